package river

import (
	"slices"

	"shearworks/api"
)

// known is what there can be of a river in all truths.
type known struct {
	courses []course
	last    int // day
}

// know returns what is known of a river; it panics if there is no truth.
func know(r api.River) known {
	k := known{slices.Collect(courses(r)), r.Days}
	if len(k.courses) == 0 {
		panic(api.ErrClash)
	}
	return k
}

func (k known) depth(day int) api.Span {
	var depths []api.Span
	for _, c := range k.courses {
		depths = append(depths, c.depths(day)...)
	}
	return joined(depths...)
}

func (k known) fall() api.Span {
	var falls []api.Span
	for _, c := range k.courses {
		falls = append(falls, exactly(c.fall))
	}
	return joined(falls...)
}

// coming returns on which days a fresh comes.
func (k known) coming(fresh int) set {
	var days set
	for _, c := range k.courses {
		for day, d := range c.days {
			if d.come.has(fresh) {
				days |= 1 << day
			}
		}
	}
	return days
}
