package river

import (
	"iter"

	"shearworks/api"
)

// today is what there can be on a day: the water, and whether looks can be right from it to the last day; and which freshes come then.
type today struct {
	waters map[water]bool
	come   set
}

// course is what there can be on all days if the river falls by one number.
type course struct {
	fall int
	days [api.RiverDays + 1]today
}

// course returns the course of a stream, and whether it has a truth.
func (s stream) course() (c course, has bool) {
	c.fall = s.ebb.fall
	for day := range c.days {
		c.days[day].waters = map[water]bool{}
	}
	var goesOn func(day int, w water) bool
	goesOn = func(day int, w water) bool {
		if on, found := c.days[day].waters[w]; found {
			return on
		}
		on, next := day == s.last, day+1
		for _, what := range s.events(next, w.came) {
		rising:
			for then := range what.waters(w) {
				switch {
				case then.depth > s.right[next].Hi:
					break rising // what follows is deeper
				case then.depth >= s.right[next].Lo && goesOn(next, then):
					c.days[next].come |= then.came &^ w.came
					on = true
				}
			}
		}
		c.days[day].waters[w] = on
		return on
	}
	for depth := range numbers(common(s.depth, s.right[0])) {
		if goesOn(0, water{depth: depth}) {
			has = true
		}
	}
	return c, has
}

// courses yields the course by each number by which the river falls in some truth.
func courses(r api.River) iter.Seq[course] {
	return func(yield func(course) bool) {
		for fall := range numbers(r.Fall) {
			if c, has := streamOf(r, fall).course(); has && !yield(c) {
				return
			}
		}
	}
}

// depths returns each depth on a day, in any order: they are joined.
func (c course) depths(day int) []api.Span {
	var list []api.Span
	for w, goesOn := range c.days[day].waters {
		if goesOn {
			list = append(list, exactly(w.depth))
		}
	}
	return list
}
