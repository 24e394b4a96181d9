package bean

import (
	"slices"

	"shearworks/api"
)

// colour is that of a bean.
type colour int

const (
	black colour = iota
	white
)

func (c colour) other() colour { return white - c }

// beans yields both beans.
func beans(yield func(colour) bool) {
	if yield(black) {
		yield(white)
	}
}

// sets is a set of voters for each bean.
type sets [2]int

// and returns the sets with those of others added.
func (s sets) and(more sets) sets {
	for bean := range beans {
		s[bean] |= more[bean]
	}
	return s
}

// counts is how many white beans there are: of the voters of each fact, and in all.
type counts struct {
	among [api.BeanGroups + api.BeanPairs + 1]int // one fact more can be supposed
	all   int
}

// voted is in how many ways all can have voted, and who gave which bean in some of these.
type voted struct {
	many int
	gave sets
}

// ways is all ways in which there can be so many white beans.
type ways map[counts]voted

// many returns how many ways there are.
func (w ways) many() int {
	var numbers []int
	for _, x := range w {
		numbers = append(numbers, x.many)
	}
	return sum(numbers...)
}

// whites returns how many white beans there can be, if there is a way.
func (w ways) whites() api.Span {
	var numbers []int
	for c := range w {
		numbers = append(numbers, c.all)
	}
	return api.Span{Lo: slices.Min(numbers), Hi: slices.Max(numbers)}
}

// gave returns who gave which bean in some way.
func (w ways) gave() sets {
	var gave sets
	for _, x := range w {
		gave = gave.and(x.gave)
	}
	return gave
}

// known returns which of so many voters are known to have given which bean, if there is a way.
func (w ways) known(voters int) sets {
	var known sets
	gave := w.gave()
search:
	for voter := range voters {
		for bean := range beans {
			if !has(gave[bean], voter) {
				known[bean.other()] |= 1 << voter
				continue search // in each way a bean was given, so this was the other one
			}
		}
	}
	return known
}

// telling returns the ways that are left if a number of white beans is told.
func (w ways) telling(whites int) ways {
	left := ways{}
	for c, x := range w {
		if c.all == whites {
			left[c] = x
		}
	}
	return left
}

// quiet returns the set of the numbers that make none of so many voters known.
func (w ways) quiet(voters int) int {
	known, numbers := w.known(voters), 0
	for whites := range voters + 1 {
		left := w.telling(whites)
		if len(left) > 0 && left.known(voters) == known {
			numbers |= 1 << whites
		}
	}
	return numbers
}
