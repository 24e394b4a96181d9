package stand

import (
	"iter"
	"math/bits"
	"slices"

	"shearworks/api"
)

// known is the day of each shearer that there can be, whatever looks tell: these only choose among them.
type known struct {
	stand api.Stand
	days  map[shearer]day
}

// know returns what is known of a stand.
func know(s api.Stand) known {
	k := known{stand: s, days: map[shearer]day{}}
	for one := range shearers(s.Minutes) {
		k.days[one] = shear(s, one.takes.ends)
	}
	return k
}

// truths yields each shearer with whom looks are right, and the day then; the map is not ranged over, whose order is not always the same.
func (k known) truths(looks []api.StandLook) iter.Seq2[takes, day] {
	return func(yield func(takes, day) bool) {
	search:
		for one := range shearers(k.stand.Minutes) {
			d := k.days[one]
			for _, l := range looks {
				if !d.agrees(l) {
					continue search
				}
			}
			if !yield(one.takes, d) {
				break search
			}
		}
	}
}

// shearers yields how long kinds take, in each truth.
func (k known) shearers(yield func(takes) bool) {
	for t := range k.truths(k.stand.Looks) {
		if !yield(t) {
			return
		}
	}
}

// all yields the day of each truth.
func (k known) all(yield func(day) bool) {
	for _, d := range k.truths(k.stand.Looks) {
		if !yield(d) {
			return
		}
	}
}

// possible tells whether there is a truth with these looks alone.
func (k known) possible(looks []api.StandLook) bool {
	for range k.truths(looks) {
		return true
	}
	return false
}

// fewest returns the set of the fewest looks with which alone there is no truth, if there is none with all of them.
func (k known) fewest() int {
	all := 1<<len(k.stand.Looks) - 1
	best := all
	for set := range all {
		if bits.OnesCount(uint(set)) < bits.OnesCount(uint(best)) && !k.possible(only(k.stand.Looks, set)) {
			best = set
		}
	}
	return best
}

// only returns the looks of a set.
func only(looks []api.StandLook, set int) []api.StandLook {
	left := make([]api.StandLook, len(looks))
	copy(left, looks) // what is left out of it stays in the argument
	for number := len(left) - 1; number >= 0; number-- {
		if set>>number&1 == 0 {
			left = slices.Delete(left, number, number+1)
		}
	}
	return left
}
