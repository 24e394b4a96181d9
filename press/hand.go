package press

import "shearworks/api"

// rest is what is left: the fleeces that are in no bale yet, and how many bales can still be pressed.
type rest struct{ fleeces, bales int }

func (r rest) without(bale int) rest { return rest{r.fleeces &^ bale, r.bales - 1} }

// pressed is how many fleeces are pressed, and into how many bales.
type pressed struct{ fleeces, bales int }

func (p pressed) with(bale int) pressed { return pressed{p.fleeces + size(bale), p.bales + 1} }

func (p pressed) better(other pressed) bool {
	return p.fleeces > other.fleeces || p.fleeces == other.fleeces && p.bales < other.bales
}

// hand presses bales: it tells which sets of fleeces fit one, and the most that can be pressed of what is left.
type hand struct {
	fits []bool
	most func(rest) pressed
}

// handOf returns the hand that presses a pile. It weighs each set of fleeces once.
func handOf(p pile) hand {
	var h hand
	for fleeces := range setsOf(p.left.fleeces) {
		h.fits = append(h.fits, p.fits(fleeces))
	}
	found := map[rest]pressed{}
	h.most = func(left rest) pressed {
		if left.fleeces == 0 || left.bales == 0 {
			return pressed{}
		}
		if best, known := found[left]; known {
			return best
		}
		next := left.fleeces & -left.fleeces // the first fleece waits, or is in a bale with some of the others
		others := left.fleeces &^ next
		best := h.most(rest{others, left.bales})
		for some := range setsOf(others) {
			if bale := next | some; h.fits[bale] {
				if all := h.most(left.without(bale)).with(bale); all.better(best) {
					best = all
				}
			}
		}
		found[left] = best
		return best
	}
	return h
}

// plan returns the bales of the first of the best pressings. The least bale of which any best one has is its first bale, and so on.
func (p pile) plan() []int {
	var bales []int
	h, left := handOf(p), p.left
pressing:
	for h.most(left) != (pressed{}) {
		for bale := range setsOf(left.fleeces) {
			if h.fits[bale] && h.most(left.without(bale)).with(bale) == h.most(left) {
				bales, left = append(bales, bale), left.without(bale)
				continue pressing
			}
		}
	}
	return bales
}

// waiting returns how many fleeces of each line are in no bale of the plan.
func (p pile) waiting() (lines [api.PressLines]int) {
	baled := joined(p.plan()...)
	for line, fleeces := range p.lines {
		lines[line] = size(fleeces &^ baled)
	}
	return lines
}
