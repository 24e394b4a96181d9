package classer

import (
	"iter"
	"math/bits"
)

// chosen is a set of bales.
type chosen int

func (c chosen) has(bale int) bool { return c>>bale&1 == 1 }

func (c chosen) many() int { return bits.OnesCount(uint(c)) }

// before and behind return the bales of the set on one side of a bale.
func (c chosen) before(bale int) chosen { return c & (1<<bale - 1) }

func (c chosen) behind(bale int) chosen { return c &^ (2<<bale - 1) }

func (c chosen) without(bale int) chosen { return c &^ (1 << bale) }

// setsBySize yields each set of so many bales, the smallest ones first, and of one size the least number first.
func setsBySize(bales int) iter.Seq[chosen] {
	return func(yield func(chosen) bool) {
		for size := range bales + 1 {
			for c := range chosen(1) << bales {
				if c.many() == size && !yield(c) {
					return
				}
			}
		}
	}
}
