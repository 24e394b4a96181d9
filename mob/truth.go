package mob

import (
	"iter"
	"math/bits"
	"slices"

	"shearworks/api"
)

// legs is how many days all legs take.
type legs struct {
	days [api.MobPlaces - 1]int
}

// allLegs yields all that the legs can take.
func allLegs(spans []api.Span) iter.Seq[legs] {
	return func(yield func(legs) bool) {
		var l legs
		var choose func(leg int) bool
		choose = func(leg int) bool {
			if leg == len(spans) {
				return yield(l)
			}
			for days := spans[leg].Lo; days <= spans[leg].Hi; days++ {
				l.days[leg] = days
				if !choose(leg + 1) {
					return false
				}
			}
			return true
		}
		choose(0)
	}
}

// truths yields all that the legs can take such that each mob can leave on some day, and the mobs then.
func truths(m api.Mob) iter.Seq2[legs, []drove] {
	return func(yield func(legs, []drove) bool) {
		mobs := drovesOf(m)
	search:
		for l := range allLegs(m.Legs) {
			driven := make([]drove, len(mobs))
			for number, d := range mobs {
				driven[number] = d.with(l)
				if !driven[number].canLeave() {
					continue search
				}
			}
			if !yield(l, driven) {
				break search
			}
		}
	}
}

// possible tells whether there is a truth.
func possible(m api.Mob) bool {
	found := false
	for range truths(m) {
		found = true
		break
	}
	return found
}

// known is all truths of a way: the mobs by how long all legs take.
type known struct {
	way  api.Mob
	mobs map[legs][]drove
}

// know returns all truths of a way; it panics if there is none.
func know(m api.Mob) known {
	k := known{way: m, mobs: map[legs][]drove{}}
	for l, driven := range truths(m) {
		k.mobs[l] = driven
	}
	if len(k.mobs) == 0 {
		panic(api.ErrClash)
	}
	return k
}

// all yields the mobs of each truth; the map is not ranged over, as its order differs from run to run.
func (k known) all(yield func([]drove) bool) {
	for l := range allLegs(k.way.Legs) {
		if driven, can := k.mobs[l]; can && !yield(driven) {
			return
		}
	}
}

// droves yields one mob of each truth.
func (k known) droves(number int) iter.Seq[drove] {
	return func(yield func(drove) bool) {
		for driven := range k.all {
			if !yield(driven[number]) {
				return
			}
		}
	}
}

// pairs yields two mobs of each truth.
func (k known) pairs(number, other int) iter.Seq[pair] {
	return func(yield func(pair) bool) {
		for driven := range k.all {
			if !yield(pair{one: driven[number], other: driven[other]}) {
				return
			}
		}
	}
}

// comes returns the span of the days on which a mob comes to a place.
func (k known) comes(number, place int) api.Span {
	return over(k.droves(number), question[drove]{span: func(d drove) api.Span {
		return d.comes(place)
	}})
}

// there returns the sets of the mobs that surely, and of those that perhaps have come to the shed by a day.
func (k known) there(day int) [2]int {
	surely, perhaps := 0, 0
	for number := range k.way.Herds {
		comes := k.comes(number, len(k.way.Places)-1)
		if comes.Hi <= day {
			surely |= 1 << number
		}
		if comes.Lo <= day {
			perhaps |= 1 << number
		}
	}
	return [2]int{surely, perhaps}
}

// only returns the way with nothing seen but what is in a set.
func only(m api.Mob, set int) api.Mob {
	seen := make([]api.MobSeen, len(m.Seen))
	copy(seen, m.Seen) // what is left out of it stays in the argument
	for number := len(seen) - 1; number >= 0; number-- {
		if set>>number&1 == 0 {
			seen = slices.Delete(seen, number, number+1)
		}
	}
	m.Seen = seen
	return m
}

// fewest returns the set of the fewest things seen with which alone there is no truth, if there is none with all of them.
func fewest(m api.Mob) int {
	all := 1<<len(m.Seen) - 1
	best := all
	for set := range all {
		if bits.OnesCount(uint(set)) < bits.OnesCount(uint(best)) && !possible(only(m, set)) {
			best = set
		}
	}
	return best
}
