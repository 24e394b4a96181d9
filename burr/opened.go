package burr

import "shearworks/api"

// finding is which bales are found to hold a burr: of those that are opened, and of the top line.
type finding struct{ opened, top int }

// set is bales of which it becomes known which ones hold a burr.
type set interface {
	// find returns what is found if just these bales hold a burr.
	find(burrs int) finding
}

// opened is bales that are opened.
type opened struct{ bales int }

func (o opened) seen(burrs int) int { return o.bales & burrs }

func (o opened) find(burrs int) finding { return finding{opened: o.seen(burrs)} }

// judged is bales that are opened while all is known of the top line.
type judged struct {
	opened
	top int
}

func (j judged) find(burrs int) finding {
	return finding{opened: j.seen(burrs), top: j.top & burrs}
}

// findings returns how many different things can be found in a set, by which bales can hold a burr.
func findings(burrs []int, s set) int {
	found := map[finding]bool{}
	for _, bales := range burrs {
		found[s.find(bales)] = true
	}
	return len(found)
}

// tell tells whether bales tell of the top line: what is found in them never leaves two things that can be found in it.
func (o opened) tell(burrs []int, top int) bool {
	return findings(burrs, o) == findings(burrs, judged{opened: o, top: top})
}

// fewest returns the set of the fewest bales that tell of the top line, by which bales can hold a burr.
func fewest(burrs []int, b api.Burr) int {
	return first(setsBySize(len(b.Bales)), wanted[int]{
		suits: func(bales int) bool { return opened{bales: bales}.tell(burrs, b.Top) },
		none:  api.ErrNone, // it is not needed: the top line tells of itself
	})
}
