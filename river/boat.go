package river

import (
	"slices"

	"shearworks/api"
)

// boat is on which of some days the river bears a boat: in each truth, and in some.
type boat struct {
	days            []int
	surely, perhaps set
}

// boat returns what is known of a boat that draws so much.
func (k known) boat(draws int) boat {
	b := boat{days: slices.Collect(numbers(api.Span{Hi: k.last}))}
	for _, day := range b.days {
		depth := k.depth(day)
		if depth.Lo >= draws {
			b.surely |= 1 << day
		}
		if depth.Hi >= draws {
			b.perhaps |= 1 << day
		}
	}
	return b
}

// on returns whether the river bears the boat on a day.
func (b boat) on(day int) int {
	switch {
	case b.surely.has(day):
		return api.RiverAlways
	case b.perhaps.has(day):
		return api.RiverPerhaps
	}
	return api.RiverNever
}

// until returns the last day to which the river always bears the boat; it panics if there is none.
func (b boat) until() int {
	return last(b.days, wanted[int]{suits: b.surely.hasTo, none: api.ErrNone})
}

// last returns the last day on which the river can bear the boat; it panics if there is none.
func (b boat) last() int {
	return last(b.days, wanted[int]{suits: b.perhaps.has, none: api.ErrNone})
}
