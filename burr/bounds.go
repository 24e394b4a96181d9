package burr

import (
	"math/bits"

	"shearworks/api"
)

// bounds is what a set can be: all of surely is in it, and nothing but what is in perhaps.
type bounds struct{ surely, perhaps int }

// exactly returns the bounds of what can be one set only.
func exactly(set int) bounds { return bounds{surely: set, perhaps: set} }

// holding returns what bales can hold a burr if some mobs were in burrs.
func holding(bales []api.BurrBale, mobs int) bounds {
	var b bounds
	for number, bale := range bales {
		if bale.Surely&mobs != 0 {
			b.surely |= 1 << number
		}
		if bale.Perhaps&mobs != 0 {
			b.perhaps |= 1 << number
		}
	}
	return b
}

// after returns the bounds if a test is right.
func (b bounds) after(t api.BurrTest) bounds {
	if t.Found {
		b.surely |= 1 << t.Bale
	} else {
		b.perhaps &^= 1 << t.Bale
	}
	return b
}

// torn tells whether nothing is within the bounds.
func (b bounds) torn() bool { return b.surely&^b.perhaps != 0 }

// of returns the bounds of what is in a set.
func (b bounds) of(set int) bounds { return bounds{surely: b.surely & set, perhaps: b.perhaps & set} }

func (b bounds) canBeEmpty() bool { return b.surely == 0 }

func (b bounds) mustBeEmpty() bool { return b.perhaps == 0 }

// unsure returns what is in some sets within the bounds, and not in others.
func (b bounds) unsure() int { return b.perhaps &^ b.surely }

// many returns how many sets are within the bounds.
func (b bounds) many() int { return 1 << size(b.unsure()) }

// sets yields each set within the bounds, the least number first.
func (b bounds) sets(yield func(int) bool) {
	unsure := b.unsure()
	for part := 0; yield(b.surely|part) && part != unsure; {
		part = (part - unsure) & unsure // counts up in the bits that are unsure only
	}
}

// joined returns the bounds of all that is within some of several bounds. There has to be one.
func joined(list ...bounds) bounds {
	all := list[0]
	for _, b := range list {
		all = bounds{surely: all.surely & b.surely, perhaps: all.perhaps | b.perhaps}
	}
	return all
}

// size returns how many are in a set.
func size(set int) int { return bits.OnesCount(uint(set)) }
