package bean

import (
	"iter"
	"math/bits"

	"shearworks/api"
)

// wanted is what suits, and the error if nothing does.
type wanted[T any] struct {
	suits func(T) bool
	none  api.Errno
}

// first returns the first one that suits; it panics with the error if none does.
func first[T any](all iter.Seq[T], w wanted[T]) T {
	for x := range all {
		if w.suits(x) {
			return x
		}
	}
	panic(w.none)
}

// setsBySize yields each set of so many, the smallest ones first, and of one size the least number first.
func setsBySize(many int) iter.Seq[int] {
	return func(yield func(int) bool) {
		for size := range many + 1 {
			for set := range 1 << many {
				if bits.OnesCount(uint(set)) == size && !yield(set) {
					return
				}
			}
		}
	}
}

func has(set, n int) bool {
	return set>>n&1 == 1
}

// sum adds numbers.
func sum(numbers ...int) int {
	all := 0
	for _, n := range numbers {
		all += n
	}
	return all
}
