package press

import (
	"iter"
	"math/bits"
)

// setsOf yields each set of some of a set, the least number first, which is that of none.
func setsOf(set int) iter.Seq[int] {
	return func(yield func(int) bool) {
		for some := 0; yield(some) && some != set; {
			some = (some - set) & set // counts on in the bits of the set alone
		}
	}
}

// numbers yields each number that is in a set, the least one first.
func numbers(set int) iter.Seq[int] {
	return func(yield func(int) bool) {
		for ; set != 0; set &= set - 1 {
			if !yield(bits.TrailingZeros(uint(set))) {
				return
			}
		}
	}
}

// joined returns what is in any of the sets.
func joined(sets ...int) int {
	all := 0
	for _, set := range sets {
		all |= set
	}
	return all
}
