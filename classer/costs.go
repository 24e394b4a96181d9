package classer

import (
	"iter"
	"slices"

	"shearworks/api"
)

// costs is how many looks were mistaken at least, by how many fleeces of a bale are wrong.
type costs [api.ClassFleeces + 1]int

// never is what a number costs that cannot be: there are fewer looks than that.
const never = api.ClassBales*api.ClassFleeces + 1

// costsOf returns what the numbers of a bale cost by the looks at it.
func costsOf(b api.ClassBale) costs {
	var c costs
	for wrong := range c {
		right := b.Fleeces - wrong
		if right < 0 {
			c[wrong] = never
			continue
		}
		// Looks are mistaken that found more to be wrong, or to be right, than are.
		c[wrong] = max(0, b.Wrong-wrong, b.Looked-b.Wrong-right)
	}
	return c
}

// sum returns what numbers cost together.
func sum(list ...costs) costs {
	var all costs
	for _, c := range list {
		for wrong, mistakes := range c {
			all[wrong] += mistakes
		}
	}
	return all
}

// can tells whether some number costs so many mistakes at most.
func (c costs) can(mistakes int) bool { return slices.Min(c[:]) <= mistakes }

// numbers yields those that cost so many mistakes at most, the least one first.
func (c costs) numbers(mistakes int) iter.Seq[int] {
	return func(yield func(int) bool) {
		for wrong, cost := range c {
			if cost <= mistakes && !yield(wrong) {
				return
			}
		}
	}
}

// span returns how many fleeces of a bale of a line can be wrong.
func (c costs) span(line api.Classer) api.Span {
	s := nothing()
	for wrong := range c.numbers(line.Mistakes) {
		s = joined(s, exactly(wrong))
	}
	return s
}

// keeps returns whether a bale keeps the line; it does so always if no number can be.
func (c costs) keeps(line api.Classer) int {
	s := c.span(line)
	return howSure(s.Hi <= line.May, s.Lo <= line.May)
}
