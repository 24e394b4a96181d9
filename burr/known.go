package burr

import (
	"iter"
	"slices"

	"shearworks/api"
)

// known is all sets of mobs that can have been in burrs, and, for each of them, what bales can hold one.
type known struct{ mobs, bales []bounds }

func know(b api.Burr) known {
	var k known
sets:
	for mobs := range burred(b) {
		bales := holding(b.Bales, mobs)
		for _, t := range b.Tests {
			if bales = bales.after(t); bales.torn() {
				continue sets
			}
		}
		k.mobs, k.bales = append(k.mobs, exactly(mobs)), append(k.bales, bales)
	}
	return k
}

// burred yields each set of as many mobs as were in burrs.
func burred(b api.Burr) iter.Seq[int] {
	return func(yield func(int) bool) {
		for mobs := range 1 << b.Mobs {
			if within(size(mobs), b.Burred.Lo, b.Burred.Hi) && !yield(mobs) {
				return
			}
		}
	}
}

// possible tells whether there is a truth.
func (k known) possible() bool { return len(k.bales) > 0 }

// sure returns what is known; it panics if there is no truth.
func (k known) sure() known {
	if !k.possible() {
		panic(api.ErrClash)
	}
	return k
}

// clean tells whether the top line is clean, if there is a truth.
func (k known) clean(top int) int {
	var line []bounds
	for _, bales := range k.bales {
		line = append(line, bales.of(top))
	}
	return howSure(joined(line...).mustBeEmpty(), slices.ContainsFunc(line, bounds.canBeEmpty))
}

// count returns how many truths there are.
func (k known) count() int {
	truths := 0
	for _, bales := range k.bales {
		truths += bales.many()
	}
	return truths
}

// burrs returns each set of bales that hold a burr in some truth, once, whichever mobs were in burrs.
func (k known) burrs() []int {
	var list []int
	for _, bales := range k.bales {
		list = slices.AppendSeq(list, bales.sets)
	}
	slices.Sort(list)
	return slices.Compact(list)
}

// clashing returns the set of the fewest tests with which alone there is no truth; it panics if there is one with all of them.
func clashing(b api.Burr) int {
	return first(setsBySize(len(b.Tests)), wanted[int]{
		suits: func(tests int) bool { return !know(only(b, tests)).possible() },
		none:  api.ErrNone,
	})
}

// only returns the bales with a set of their tests alone.
func only(b api.Burr, set int) api.Burr {
	var tests []api.BurrTest
	for number, t := range b.Tests {
		if set>>number&1 == 1 {
			tests = append(tests, t)
		}
	}
	b.Tests = tests
	return b
}
