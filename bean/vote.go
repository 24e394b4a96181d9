package bean

import (
	"maps"
	"math/bits"

	"shearworks/api"
)

// vote is how many voted, how many of the beans can be white, and what is known.
type vote struct {
	voters int
	whites api.Span
	facts  []fact
}

func voteOf(b api.Bean) vote {
	v := vote{voters: b.Voters, whites: b.Whites}
	for _, g := range b.Groups {
		v.facts = append(v.facts, group{voters: g.Voters, whites: g.Whites})
	}
	for _, p := range b.Pairs {
		v.facts = append(v.facts, pairOf(p.A, p.B, p.Same))
	}
	return v
}

// ways returns the ways of all truths; it panics if there is none.
func (v vote) ways() ways {
	all := ways{counts{}: voted{many: 1}}
	for _, c := range v.camps() {
		all = v.voting(all, c)
	}
	maps.DeleteFunc(all, func(c counts, _ voted) bool { return !v.right(c) })
	if len(all) == 0 {
		panic(api.ErrClash)
	}
	return all
}

// camps returns the voters as all facts join them; it panics if they cannot be joined so.
func (v vote) camps() camps {
	all := strangers(v.voters)
	for _, f := range v.facts {
		all = f.join(all)
	}
	if !all.canBe() {
		panic(api.ErrClash)
	}
	return all
}

// voting returns the ways there are after a camp has voted too.
func (v vote) voting(before ways, c camp) ways {
	after := ways{}
	for counted, x := range before {
		for bean := range beans {
			gave := c.gave(bean)
			now := v.counting(counted, gave[white])
			others := after[now]
			after[now] = voted{many: sum(others.many, x.many), gave: others.gave.and(x.gave).and(gave)}
		}
	}
	return after
}

// counting returns the counts with the white beans of some voters more.
func (v vote) counting(c counts, whites int) counts {
	for number, f := range v.facts {
		c.among[number] = sum(c.among[number], f.among(whites))
	}
	c.all = sum(c.all, bits.OnesCount(uint(whites)))
	return c
}

// right tells whether all that is known can be right with such counts.
func (v vote) right(c counts) bool {
	for number, f := range v.facts {
		if !f.right(c.among[number]) {
			return false
		}
	}
	return within(c.all, v.whites.Lo, v.whites.Hi)
}

// possible tells whether there is a truth.
func (v vote) possible() bool {
	_, e := answered(v.ways)
	return e == api.OK
}

// supposing returns the vote with one fact more.
func (v vote) supposing(f fact) vote {
	facts := make([]fact, len(v.facts))
	copy(facts, v.facts) // what else is supposed of the vote must not come into the same place
	v.facts = append(facts, f)
	return v
}

// same tells whether two voters gave the same beans; it panics if there is no truth.
func (v vote) same(one, other int) int {
	alike := v.supposing(pairOf(one, other, true)).possible()
	unlike := v.supposing(pairOf(one, other, false)).possible()
	if !alike && !unlike {
		panic(api.ErrClash)
	}
	return howSure(!unlike, alike)
}

// only returns the vote with a set of its facts alone.
func (v vote) only(set int) vote {
	var facts []fact
	for number, f := range v.facts {
		if has(set, number) {
			facts = append(facts, f)
		}
	}
	v.facts = facts
	return v
}

// fewest returns the set of the fewest facts with which alone there is no truth, if there is none with all of them.
func (v vote) fewest() int {
	return first(setsBySize(len(v.facts)), wanted[int]{
		suits: func(set int) bool { return !v.only(set).possible() },
		none:  api.ErrNone,
	})
}
