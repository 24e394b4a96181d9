package river

import (
	"iter"

	"shearworks/api"
)

// water is how deep the river is on a day, and which freshes have come by then.
type water struct {
	depth int
	came  set
}

// event is what befalls the river from one day to the next one.
type event interface {
	// waters yields what there can be after it, the least deep first.
	waters(before water) iter.Seq[water]
}

// ebb is that the river falls, and no fresh comes.
type ebb struct{ fall int }

func (e ebb) waters(before water) iter.Seq[water] {
	return func(yield func(water) bool) { yield(e.low(before)) }
}

// low returns the water when it has fallen.
func (e ebb) low(before water) water {
	return water{max(0, before.depth-e.fall), before.came}
}

// flood is that the river falls, and then some freshes come.
type flood struct {
	ebb
	come set
	rise api.Span // of all of them together
}

func (f flood) waters(before water) iter.Seq[water] {
	return func(yield func(water) bool) {
		low := f.low(before)
		for rise := range numbers(f.rise) {
			if !yield(water{low.depth + rise, low.came | f.come}) {
				return
			}
		}
	}
}
