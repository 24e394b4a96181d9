package classer

import "shearworks/api"

// end is that from which bales are taken: what is added to the number of a bale to come nearer to it.
type end int

const (
	front end = -1
	back  end = 1
)

// taken is the bales from an end up to a bale, without it, and the set of those whose looks are taken too.
type taken struct {
	from  end
	upTo  int
	looks chosen
}

// known is what is known of a line: what a number of a bale costs by the bales that are taken. These are the same for many bales, and many sets of looks.
type known struct {
	line  api.Classer
	step  step
	costs map[taken]costs
}

func know(c api.Classer) known { return knowBy(c, drifting{most: c.Drift}) }

func knowBy(c api.Classer, s step) known {
	return known{line: c, step: s, costs: map[taken]costs{}}
}

// keeping returns what is known of a bale if all others keep the line.
func (k known) keeping() known {
	return knowBy(k.line, keeping{drifting: drifting{most: k.line.Drift}, may: k.line.May})
}

// looking returns what is known if so many more fleeces of a bale were looked at, and none of these found to be wrong.
func (k known) looking(bale, fleeces int) known {
	c := k.line
	c.Bales = make([]api.ClassBale, len(k.line.Bales))
	copy(c.Bales, k.line.Bales) // the list is the caller's
	c.Bales[bale].Looked += fleeces
	return know(c)
}

// every returns the set of all bales.
func (k known) every() chosen { return 1<<len(k.line.Bales) - 1 }

// sure returns what is known; it panics if there is no truth.
func (k known) sure() known {
	if !k.possible(k.every()) {
		panic(api.ErrClash)
	}
	return k
}

// own returns what the numbers of a bale cost by itself.
func (k known) own(bale int, looks chosen) costs {
	b := k.line.Bales[bale]
	if !looks.has(bale) {
		b = api.ClassBale{Fleeces: b.Fleeces}
	}
	return costsOf(b)
}

// leading returns what the numbers of a bale cost by those of the next one.
func (k known) leading(next costs) costs {
	var c costs
	for wrong := range c {
		c[wrong] = never
		for other := range k.step.next(wrong) {
			c[wrong] = min(c[wrong], next[other])
		}
	}
	return c
}

// beside returns what the numbers of a bale cost by the bales on one side of it.
func (k known) beside(t taken) costs {
	if seen, is := k.costs[t]; is {
		return seen
	}
	var c costs // where there is no bale nothing costs a mistake
	if next := t.upTo + int(t.from); isBale(k.line, next) {
		further := k.beside(taken{from: t.from, upTo: next, looks: t.looks.without(next)})
		c = k.leading(sum(k.own(next, t.looks), further))
	}
	k.costs[t] = c
	return c
}

// with returns what the numbers of a bale cost by all bales, with the looks at some of them.
func (k known) with(looks chosen, bale int) costs {
	before := k.beside(taken{from: front, upTo: bale, looks: looks.before(bale)})
	behind := k.beside(taken{from: back, upTo: bale, looks: looks.behind(bale)})
	return sum(before, k.own(bale, looks), behind)
}

// through returns what the numbers of a bale cost by all bales.
func (k known) through(bale int) costs { return k.with(k.every(), bale) }

// possible tells whether there is a truth with the looks at some bales.
func (k known) possible(looks chosen) bool {
	return k.with(looks, 0).can(k.line.Mistakes)
}

// kept returns whether the line is kept, if there is a truth.
func (k known) kept() int {
	always := true
	for bale := range k.line.Bales {
		always = always && k.through(bale).keeps(k.line) == api.ClassAlways
	}
	// If all others keep the line, the first bale can tell whether all do.
	ever := k.keeping().through(0).span(k.line).Lo <= k.line.May
	return howSure(always, ever)
}

// proof returns the first bale that keeps the line in no truth; it panics if there is none.
func (k known) proof() int {
search:
	for bale := range k.line.Bales {
		for wrong := range k.through(bale).numbers(k.line.Mistakes) {
			if wrong <= k.line.May {
				continue search
			}
		}
		return bale
	}
	panic(api.ErrNone)
}

// mistaken returns the least number of mistakes with which there is a truth.
func (k known) mistaken() int {
	return first(fromTo(0, never-1), wanted[int]{
		suits: k.through(0).can,
		none:  api.ErrNone,
	})
}

// more returns how many more fleeces of a bale have to be looked at; it panics if there are too few.
func (k known) more(bale int) int {
	b := k.line.Bales[bale]
	return first(fromTo(0, b.Fleeces-b.Looked), wanted[int]{
		suits: func(fleeces int) bool {
			return k.looking(bale, fleeces).through(bale).keeps(k.line) == api.ClassAlways
		},
		none: api.ErrNone,
	})
}

// clashing returns the first of the smallest sets of bales with the looks at which there is no truth; it panics if there is none.
func (k known) clashing() int {
	return int(first(setsBySize(len(k.line.Bales)), wanted[chosen]{
		suits: func(looks chosen) bool { return !k.possible(looks) },
		none:  api.ErrNone,
	}))
}
