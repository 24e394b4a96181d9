package tally

import (
	"iter"
	"math/bits"
)

// chosen is a set of calls.
type chosen struct{ calls int }

func (c chosen) has(call int) bool { return c.calls>>call&1 == 1 }

func (c chosen) many() int { return bits.OnesCount(uint(c.calls)) }

func (c chosen) without(others chosen) chosen { return chosen{calls: c.calls &^ others.calls} }

// setsBySize yields each set of so many calls, the smallest ones first, and of one size the least number first.
func setsBySize(many int) iter.Seq[chosen] {
	return func(yield func(chosen) bool) {
		for size := range many + 1 {
			for calls := range 1 << many {
				if c := (chosen{calls: calls}); c.many() == size && !yield(c) {
					return
				}
			}
		}
	}
}
