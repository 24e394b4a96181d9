package classer_test

import (
	"math/bits"
	"slices"
	"testing"

	"shearworks/api"
	"shearworks/classer"
)

// report is all that can be said of how many fleeces are wrong.
type report struct {
	wrong []api.Span
	all   api.Span
	keeps []int
	line  int
	proof int   // -1 if there is none
	more  []int // -1 if there are not so many left
}

// reportOf returns ErrClash if there is no truth.
func reportOf(c api.Classer) (r report, e api.Errno) {
	orNone := func(n int, e api.Errno) int {
		if e == api.ErrNone {
			return -1
		}
		return n
	}
	for bale := range c.Bales {
		wrong, _ := classer.Wrong(c, bale)
		keeps, _ := classer.Keeps(c, bale)
		r.wrong, r.keeps, r.more = append(r.wrong, wrong), append(r.keeps, keeps), append(r.more, orNone(classer.More(c, bale)))
	}
	r.all, e = classer.All(c)
	r.line, _ = classer.Line(c)
	r.proof = orNone(classer.Proof(c))
	return r, e
}

func inSpan(inner, outer api.Span) bool { return outer.Lo <= inner.Lo && inner.Hi <= outer.Hi }

func asSure(now, before int) bool { return before == api.ClassPerhaps || now == before }

// asExact tells whether nothing is said less exactly than before.
func asExact(now, before report) bool {
	proves := before.proof < 0 || 0 <= now.proof && now.proof <= before.proof
	return slices.EqualFunc(now.wrong, before.wrong, inSpan) && inSpan(now.all, before.all) &&
		slices.EqualFunc(now.keeps, before.keeps, asSure) && asSure(now.line, before.line) && proves
}

// compareBetter tells whether two lines could be compared, of which the second one is known better: it is not if there is no truth.
func compareBetter(t *testing.T, c, better api.Classer) bool {
	t.Helper()
	before, e := reportOf(c)
	now, f := reportOf(better)
	if e == api.ErrClash && f != api.ErrClash || f == api.OK && !asExact(now, before) {
		t.Fatal(c, better, before, e, now, f)
	}
	return f == api.OK
}

// anyOf returns a line of few fleeces, or of many ones.
func anyOf(r *chance, i int) api.Classer {
	if i%2 == 0 {
		return anyLine(r, small())
	}
	return anyLine(r, big())
}

// P6.8: with fewer mistakes no span is wider.
func TestFewerMistakes(t *testing.T) {
	r := chance(2)
	compared := 0
	for i := range 800 {
		c := anyOf(&r, i)
		if c.Mistakes == 0 {
			continue
		}
		better := clone(c)
		better.Mistakes = r.below(c.Mistakes)
		if compareBetter(t, c, better) {
			compared++
		}
	}
	if compared < 200 {
		t.Error("too few compared", compared)
	}
}

// P6.8: with less drift no span is wider, and no fewer looks were mistaken.
func TestLessDrift(t *testing.T) {
	r := chance(3)
	compared := 0
	for i := range 800 {
		c := anyOf(&r, i)
		if c.Drift == 0 {
			continue
		}
		better := clone(c)
		better.Drift = r.below(c.Drift)
		if compareBetter(t, c, better) {
			compared++
		}
		before, _ := classer.Mistaken(c)
		if now, e := classer.Mistaken(better); now < before || e != api.OK {
			t.Fatal(c, better, before, now, e)
		}
	}
	if compared < 200 {
		t.Error("too few compared", compared)
	}
}

// P6.8 and P2: with a fleece more that was looked at, whatever it was found to be, no span is wider; no fewer looks were mistaken, and at most one more.
func TestFleeceMore(t *testing.T) {
	r := chance(4)
	compared := 0
	for i := range 800 {
		c := anyOf(&r, i)
		number := r.below(len(c.Bales))
		if c.Bales[number].Looked == c.Bales[number].Fleeces {
			continue
		}
		before, _ := classer.Mistaken(c)
		for wrong := range 2 {
			better := looking(c, number, 1, wrong)
			if compareBetter(t, c, better) {
				compared++
			}
			if now, e := classer.Mistaken(better); now < before || now > before+1 || e != api.OK {
				t.Fatal(c, better, before, now, e)
			}
		}
	}
	if compared < 200 {
		t.Error("too few compared", compared)
	}
}

// happening returns a line of what truly happened, and how many fleeces of each bale are wrong.
func happening(r *chance) (c api.Classer, happened counts) {
	c = api.Classer{May: r.below(api.ClassFleeces + 1), Drift: r.below(8), Mistakes: r.below(api.ClassMistakes + 1)}
	wrong, left := r.below(api.ClassFleeces+1), c.Mistakes
	for number := range 1 + r.below(api.ClassBales) {
		wrong = min(api.ClassFleeces, max(0, wrong+r.below(2*c.Drift+1)-c.Drift))
		b := api.ClassBale{Fleeces: max(1, wrong+r.below(api.ClassFleeces+1-wrong))}
		happened[number] = wrong
		bad, good := wrong, b.Fleeces-wrong // that were not looked at yet
		for range r.below(b.Fleeces + 1) {
			isBad := r.below(bad+good) < bad
			if isBad {
				bad--
			} else {
				good--
			}
			if left > 0 && r.below(6) == 0 {
				left--
				isBad = !isBad
			}
			b.Looked++
			if isBad {
				b.Wrong++
			}
		}
		c.Bales = append(c.Bales, b)
	}
	return c, happened
}

func holds(s api.Span, n int) bool { return s.Lo <= n && n <= s.Hi }

// P6.8 and P2: whichever fleeces truly are wrong, as many as lie within what is returned, a bale that surely keeps the line does, and a bale that proves a drift does not.
func TestTrueNumbers(t *testing.T) {
	r := chance(5)
	sure, never, proved := 0, 0, 0
	for range 500 {
		c, happened := happening(&r)
		said, e := reportOf(c)
		if e != api.OK || !holds(said.all, happened.total(everything)) {
			t.Fatal(c, happened, said, e)
		}
		kept := true
		for number := range c.Bales {
			keeps := happened[number] <= c.May
			kept = kept && keeps
			if !holds(said.wrong[number], happened[number]) || keeps && said.keeps[number] == api.ClassNever || !keeps && said.keeps[number] == api.ClassAlways {
				t.Fatal(c, happened, number, said)
			}
		}
		if kept && said.line == api.ClassNever || !kept && said.line == api.ClassAlways || said.proof >= 0 && happened[said.proof] <= c.May {
			t.Fatal(c, happened, said)
		}
		sure += said.line / api.ClassAlways
		if said.line == api.ClassNever {
			never++
		}
		if said.proof >= 0 {
			proved++
		}
		if mistaken, e := classer.Mistaken(c); mistaken > c.Mistakes || e != api.OK {
			t.Fatal(c, mistaken, e)
		}
		if got, e := classer.Clash(c); got != 0 || e != api.ErrNone {
			t.Fatal(c, got, e)
		}
	}
	if sure < 50 || never < 50 || proved < 50 {
		t.Error("too few", sure, never, proved)
	}
}

// turned returns the line with its bales in the opposite order.
func turned(c api.Classer) api.Classer {
	c = clone(c)
	slices.Reverse(c.Bales)
	return c
}

// P6.8 and P13: if the bales come in the opposite order nothing changes but their numbers.
func TestOppositeOrder(t *testing.T) {
	r := chance(6)
	clashes := 0
	for i := range 600 {
		c := anyOf(&r, i)
		before, e := reportOf(c)
		now, f := reportOf(turned(c))
		slices.Reverse(now.wrong)
		slices.Reverse(now.keeps)
		slices.Reverse(now.more)
		if e != f || !slices.Equal(before.wrong, now.wrong) || before.all != now.all || !slices.Equal(before.keeps, now.keeps) || before.line != now.line || !slices.Equal(before.more, now.more) {
			t.Fatal(c, before, e, now, f)
		}
		if (before.proof < 0) != (now.proof < 0) || e == api.OK && now.proof >= 0 && before.keeps[len(c.Bales)-1-now.proof] != api.ClassNever {
			t.Fatal(c, before, now)
		}
		mistaken, _ := classer.Mistaken(c)
		if again, _ := classer.Mistaken(turned(c)); again != mistaken {
			t.Fatal(c, mistaken, again)
		}
		set, e := classer.Clash(c)
		other, f := classer.Clash(turned(c))
		if e != f || bits.OnesCount(uint(set)) != bits.OnesCount(uint(other)) {
			t.Fatal(c, set, e, other, f)
		}
		if e == api.OK {
			clashes++
			back := int(bits.Reverse8(uint8(other)) >> (8 - len(c.Bales)))
			if hasTruth(alone(c, back)) {
				t.Fatal(c, set, back)
			}
		}
	}
	if clashes < 60 {
		t.Error("clashes", clashes)
	}
}

// P6.8: both ends of a span are those of a truth: there is one too if all fleeces of the bale are looked at, without a mistake, and found to be as many.
func TestEnds(t *testing.T) {
	r := chance(8)
	for range 200 {
		c, _ := happening(&r)
		c.Mistakes = 0 // with which the looks of this bale say no more
		for number, b := range c.Bales {
			s, e := classer.Wrong(c, number)
			if e != api.OK {
				continue
			}
			for wrong := range b.Fleeces + 1 {
				known := clone(c)
				known.Bales[number] = bale(b.Fleeces, b.Fleeces, wrong)
				truth := hasTruth(known) && b.Wrong <= wrong && b.Looked-b.Wrong <= b.Fleeces-wrong
				if end := wrong == s.Lo || wrong == s.Hi; end && !truth || !holds(s, wrong) && truth {
					t.Fatal(c, number, s, wrong, truth)
				}
			}
		}
	}
}
