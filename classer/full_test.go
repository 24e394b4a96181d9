package classer_test

import (
	"math/bits"
	"testing"

	"shearworks/api"
	"shearworks/classer"
)

// mistakesOf returns how many looks at a bale at least were mistaken if so many of its fleeces are wrong, and whether so many can be: it tries how many of them were looked at.
func mistakesOf(b api.ClassBale, wrong int) (least int, can bool) {
	for looked := 0; looked <= min(wrong, b.Looked); looked++ {
		if wrong-looked > b.Fleeces-b.Looked {
			continue
		}
		mistakes := max(looked-b.Wrong, b.Wrong-looked)
		if !can || mistakes < least {
			least, can = mistakes, true
		}
	}
	return least, can
}

// reached is how many fleeces can be wrong so far, as numbers that are true, by how many of the last bale are, and by how many looks were mistaken.
type reached [api.ClassFleeces + 1][api.ClassMistakes + 1][api.ClassBales*api.ClassFleeces + 1]bool

// reach goes from the first bale to the last one; only truths count in which so many fleeces of each bale are wrong as its span contains.
func reach(c api.Classer, within []api.Span) *reached {
	var before *reached
	for number, b := range c.Bales {
		now := &reached{}
		for wrong := within[number].Lo; wrong <= within[number].Hi; wrong++ {
			mistakes, can := mistakesOf(b, wrong)
			switch {
			case !can || mistakes > c.Mistakes:
			case before == nil:
				now[wrong][mistakes][wrong] = true
			default:
				for last := max(0, wrong-c.Drift); last <= min(api.ClassFleeces, wrong+c.Drift); last++ {
					now.add(before, last, wrong, mistakes)
				}
			}
		}
		before = now
	}
	return before
}

// add adds what was reached with so many wrong fleeces of the last bale, if so many of this one are.
func (r *reached) add(before *reached, last, wrong, mistakes int) {
	for made := 0; made+mistakes <= api.ClassMistakes; made++ {
		for total, can := range before[last][made] {
			if can {
				r[wrong][made+mistakes][total+wrong] = true
			}
		}
	}
}

// totals returns how many fleeces can be wrong in all, and whether there is a truth.
func (r *reached) totals(mistakes int) (all api.Span, can bool) {
	for _, by := range r {
		for _, totals := range by[:mistakes+1] {
			for n, is := range totals {
				if !is {
					continue
				}
				if !can {
					all, can = exactly(n), true
				}
				all = span(min(all.Lo, n), max(all.Hi, n))
			}
		}
	}
	return all, can
}

// anything returns spans that contain all numbers.
func anything(c api.Classer) []api.Span {
	var list []api.Span
	for _, b := range c.Bales {
		list = append(list, span(0, b.Fleeces))
	}
	return list
}

// canBe tells whether so many fleeces of a bale can be wrong.
func canBe(c api.Classer, bale, wrong int) bool {
	within := anything(c)
	within[bale] = exactly(wrong)
	_, can := reach(c, within).totals(c.Mistakes)
	return can
}

// P6.1 to P6.3 of many fleeces: what is returned is what is found by going from bale to bale, with each number of fleeces.
func TestManyFleeces(t *testing.T) {
	r := chance(11)
	clashes := 0
	for range 40 {
		c := anyLine(&r, big())
		all, can := reach(c, anything(c)).totals(c.Mistakes)
		if !can {
			clashes++
			if got := fromSpan(classer.All(c)); got != failed(api.ErrClash) {
				t.Fatal(c, got)
			}
			continue
		}
		if got, e := classer.All(c); got != all || e != api.OK {
			t.Fatal(c, got, e, "want", all)
		}
		proof, always := -1, true
		for number, b := range c.Bales {
			wrong := span(0, b.Fleeces)
			for !canBe(c, number, wrong.Lo) {
				wrong.Lo++
			}
			for !canBe(c, number, wrong.Hi) {
				wrong.Hi--
			}
			if got, e := classer.Wrong(c, number); got != wrong || e != api.OK {
				t.Fatal(c, number, got, e, "want", wrong)
			}
			always = always && wrong.Hi <= c.May
			if wrong.Lo > c.May && proof < 0 {
				proof = number
			}
		}
		compareVerdict(t, c, proof, always)
	}
	if clashes > 20 {
		t.Error("clashes", clashes)
	}
}

// compareVerdict compares what is said of a line as a whole; no bale proves that it is not kept if the number is below 0.
func compareVerdict(t *testing.T, c api.Classer, proof int, always bool) {
	t.Helper()
	within := anything(c)
	for number := range within {
		within[number].Hi = min(within[number].Hi, c.May)
	}
	_, ever := reach(c, within).totals(c.Mistakes)
	want := verdict{api.ClassNever, proof, api.OK}
	switch {
	case always:
		want.line = api.ClassAlways
	case ever:
		want.line = api.ClassPerhaps
	}
	if proof < 0 {
		want.proof, want.e = 0, api.ErrNone
	}
	var got verdict
	got.line, _ = classer.Line(c)
	got.proof, got.e = classer.Proof(c)
	if got != want {
		t.Fatal(c, got, "want", want)
	}
}

// alone returns the line with the looks at the bales of a set alone.
func alone(c api.Classer, set int) api.Classer {
	c = clone(c)
	for number, b := range c.Bales {
		if set>>number&1 == 0 {
			c.Bales[number] = bale(b.Fleeces, 0, 0)
		}
	}
	return c
}

func hasTruth(c api.Classer) bool {
	_, e := classer.Wrong(c, 0)
	return e == api.OK
}

// P6.4 and P6.6 of many fleeces: what is named is what it is said to be.
func TestNamedLooks(t *testing.T) {
	r := chance(12)
	clashes := 0
	for range 800 {
		c := anyLine(&r, big())
		mistaken, e := classer.Mistaken(c)
		if e != api.OK || mistaken < 0 || (mistaken <= c.Mistakes) != hasTruth(c) {
			t.Fatal(c, mistaken, e)
		}
		for mistakes := range api.ClassMistakes + 1 {
			few := clone(c)
			few.Mistakes = mistakes
			if again, _ := classer.Mistaken(few); again != mistaken || hasTruth(few) != (mistaken <= mistakes) {
				t.Fatal(c, mistakes, mistaken, again)
			}
		}
		set, e := classer.Clash(c)
		if (e == api.ErrNone) != hasTruth(c) {
			t.Fatal(c, set, e)
		}
		if e == api.ErrNone {
			continue
		}
		clashes++
		for other := range 1 << len(c.Bales) {
			fewer := bits.OnesCount(uint(other)) - bits.OnesCount(uint(set))
			if before := fewer < 0 || fewer == 0 && other < set; before && !hasTruth(alone(c, other)) || other == set && hasTruth(alone(c, other)) {
				t.Fatal(c, set, other)
			}
		}
	}
	if clashes < 100 {
		t.Error("clashes", clashes)
	}
}

// looking returns the line with so many more fleeces of a bale looked at, some of them found to be wrong.
func looking(c api.Classer, bale, fleeces, wrong int) api.Classer {
	c = clone(c)
	c.Bales[bale].Looked += fleeces
	c.Bales[bale].Wrong += wrong
	return c
}

// P6.5 of many fleeces: with as many more as are returned the bale surely keeps the line, or there is no truth; with fewer it perhaps does not.
func TestEnoughMore(t *testing.T) {
	r := chance(13)
	some, none, without := 0, 0, 0
	for range 1000 {
		c := anyLine(&r, big())
		number := r.below(len(c.Bales))
		more, e := classer.More(c, number)
		if e == api.ErrClash {
			continue
		}
		left := c.Bales[number].Fleeces - c.Bales[number].Looked
		if e == api.ErrNone {
			none++
			more = left + 1
		}
		for fleeces := range left + 1 {
			keeps, f := classer.Keeps(looking(c, number, fleeces, 0), number)
			if enough := keeps == api.ClassAlways || f == api.ErrClash; enough != (fleeces >= more) {
				t.Fatal(c, number, more, e, fleeces, keeps, f)
			}
			if fleeces == more && fleeces > 0 {
				some++
				if f == api.ErrClash {
					without++
				}
			}
		}
	}
	if some < 60 || none < 100 || without < 5 {
		t.Error("too few", some, none, without)
	}
}
