package press

import (
	"slices"

	"shearworks/api"
)

// question is what is asked of a set of fleeces before they fit a bale.
type question interface{ of(fleeces int) bool }

// lines asks whether fleeces are of one line; it is the fleeces of each line.
type lines [api.PressLines]int

func (l lines) of(fleeces int) bool {
	return slices.ContainsFunc(l[:], func(line int) bool { return fleeces&^line == 0 })
}

// scales asks whether it suits how heavy fleeces are together.
type scales struct {
	pile  pile
	suits func(weight) bool
}

func (s scales) of(fleeces int) bool { return s.suits(s.pile.weigh(fleeces)) }

// passes tells whether all that is asked of fleeces is so.
func passes(fleeces int, asked ...question) bool {
	return !slices.ContainsFunc(asked, func(q question) bool { return !q.of(fleeces) })
}

// fits tells whether fleeces fit a bale in each truth. None at all never do, as they weigh nothing.
func (p pile) fits(fleeces int) bool {
	return passes(fleeces, p.lines, scales{p, p.bale.holds})
}

// canFit tells whether fleeces fit a bale in some truth.
func (p pile) canFit(fleeces int) bool {
	return passes(fleeces, p.lines, scales{p, p.bale.meets})
}

// adding returns the first fleece with which others fit a bale; it panics if there is none.
func (p pile) adding(fleeces int) int {
	return first(numbers(p.left.fleeces&^fleeces), wanted[int]{
		suits: func(fleece int) bool { return p.fits(fleeces | 1<<fleece) },
		none:  api.ErrNone,
	})
}
