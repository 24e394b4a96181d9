package press

import (
	"math/bits"
	"slices"

	"shearworks/api"
)

// pile is the fleeces that can be pressed, with all that is known of how heavy they are.
type pile struct {
	fleeces [api.PressFleeces]api.PressFleece // those beyond the last one weigh nothing, and are in no set
	lines   lines
	weighed []api.PressBale
	bale    weight // that a bale has to have
	left    rest   // before any bale is pressed
}

func pileOf(p api.Press) pile {
	all := pile{
		weighed: p.Weighed,
		bale:    weight{api.Span{Lo: p.Low, Hi: p.Top}},
		left:    rest{fleeces: 1<<len(p.Fleeces) - 1, bales: p.Bales},
	}
	copy(all.fleeces[:], p.Fleeces)
	for number, f := range p.Fleeces {
		all.lines[f.Line] |= 1 << number
	}
	return all
}

// together returns how heavy fleeces are together by what each of them weighs alone.
func (p pile) together(fleeces int) weight {
	var each []weight
	for number, f := range p.fleeces {
		if fleeces>>number&1 == 1 {
			each = append(each, weight{f.Weight})
		}
	}
	return sum(each...)
}

// part returns how heavy those of some fleeces are that are in a bale that was weighed, which weighs what the others leave.
func (p pile) part(bale api.PressBale, fleeces int) weight {
	scales, others := weight{bale.Weight}, p.together(bale.Fleeces&^fleeces)
	return p.together(bale.Fleeces & fleeces).both(scales.less(others))
}

// weigh returns how heavy fleeces are together. Bales that were weighed share no fleece, so each of them tells of its own ones alone.
func (p pile) weigh(fleeces int) weight {
	var parts []weight
	loose := fleeces
	for _, bale := range p.weighed {
		parts = append(parts, p.part(bale, fleeces))
		loose &^= bale.Fleeces
	}
	return sum(append(parts, p.together(loose))...)
}

// scaled returns how heavy each bale is that was weighed.
func (p pile) scaled() []weight {
	var list []weight
	for _, bale := range p.weighed {
		list = append(list, p.part(bale, bale.Fleeces))
	}
	return list
}

// wrong returns the set of the bales that cannot weigh what they weighed.
func (p pile) wrong() int {
	bales := 0
	for number, w := range p.scaled() {
		if w.torn() {
			bales |= 1 << number
		}
	}
	return bales
}

// sure returns the pile; it panics if there is no truth.
func (p pile) sure() pile {
	if slices.ContainsFunc(p.scaled(), weight.torn) {
		panic(api.ErrClash)
	}
	return p
}

func size(set int) int { return bits.OnesCount(uint(set)) }
