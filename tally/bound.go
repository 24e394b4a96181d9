package tally

import (
	"iter"

	"shearworks/api"
)

// bound is that a sum is greater than another one by so much at most.
type bound struct {
	from, to sum
	most     int
}

// apart returns the bounds of a sum that is greater than another one by a number of a valid span; none of the two excludes the other one.
func apart(from, to sum, by api.Span) []bound {
	return []bound{{from: from, to: to, most: by.Hi}, {from: to, to: from, most: -by.Lo}}
}

// counts returns the bounds of what is counted, if it is of a valid span.
func counts(c counted, sheep api.Span) []bound {
	return apart(sumOf(c.row(), c.from()), sumOf(c.row(), c.to()), sheep)
}

// called returns the bounds of a call, if it is right.
func called(t api.Tally, call api.TallyCall) []bound {
	return counts(countedBy(t, call), call.Sheep)
}

// strayed returns the bounds of how many went past a place: none before the first pen, and behind the last one.
func strayed(t api.Tally, place int) []bound {
	var many api.Span
	if place > 0 && place < t.Shearers {
		many = t.Strays[place-1]
	}
	return apart(sumOf(penned, place), sumOf(shorn, place), many)
}

// bounds yields the bounds of a tally in whose truths only some of the calls have to be right, two at a time.
func bounds(t api.Tally, right chosen) iter.Seq[[]bound] {
	return func(yield func([]bound) bool) {
		for place := range t.Shearers + 1 {
			if !yield(strayed(t, place)) {
				return
			}
		}
		for shearer := range t.Shearers {
			one := only(shearer)
			if !yield(counts(one, api.Span{Hi: t.Most})) || !yield(counts(pens{one}, api.Span{Hi: api.TallySheep})) {
				return
			}
		}
		for number, call := range t.Calls {
			if right.has(number) && !yield(called(t, call)) {
				return
			}
		}
	}
}
