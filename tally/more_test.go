package tally_test

import (
	"math/bits"
	"slices"
	"testing"

	"shearworks/api"
	"shearworks/tally"
)

// report is all that can be said of numbers of a tally.
type report struct {
	shorn, pens, strays, together []api.Span
	fits                          []int
}

// reportOf returns ErrClash if there is no truth.
func reportOf(x api.Tally, asked []api.TallyCall) (report, api.Errno) {
	var r report
	add := func(list []api.Span, s api.Span, _ api.Errno) []api.Span { return append(list, s) }
	for n := range x.Shearers {
		answer, e := tally.Shorn(x, n)
		r.shorn = add(r.shorn, answer, e)
		answer, e = tally.Pen(x, n)
		r.pens = add(r.pens, answer, e)
		if n < x.Shearers-1 {
			answer, e = tally.Stray(x, n)
			r.strays = add(r.strays, answer, e)
		}
		for last := n; last < x.Shearers; last++ {
			answer, e = tally.Together(x, n, last)
			r.together = add(r.together, answer, e)
		}
	}
	for _, c := range asked {
		fits, _ := tally.Fits(x, c)
		r.fits = append(r.fits, fits)
	}
	_, e := tally.Shorn(x, 0)
	return r, e
}

func inSpan(inner, outer api.Span) bool { return outer.Lo <= inner.Lo && inner.Hi <= outer.Hi }

func asSure(now, before int) bool { return before == api.TallyPerhaps || now == before }

// asExact tells whether nothing is said less exactly than before.
func asExact(now, before report) bool {
	return slices.EqualFunc(now.shorn, before.shorn, inSpan) && slices.EqualFunc(now.pens, before.pens, inSpan) &&
		slices.EqualFunc(now.strays, before.strays, inSpan) && slices.EqualFunc(now.together, before.together, inSpan) &&
		slices.EqualFunc(now.fits, before.fits, asSure)
}

func clone(x api.Tally) api.Tally {
	x.Strays, x.Calls = slices.Clone(x.Strays), slices.Clone(x.Calls)
	return x
}

// anyCalls returns calls that can be asked about.
func anyCalls(r *chance, x api.Tally, many int) (list []api.TallyCall) {
	for range many {
		c := api.TallyCall{Kind: r.below(3), At: r.below(x.Shearers)}
		c.Sheep = r.span(0, x.Most+5, 12)
		list = append(list, c)
	}
	return list
}

// better returns the tally with a call more, or with a call that is known better.
func better(r *chance, x api.Tally) api.Tally {
	y := clone(x)
	if len(x.Calls) == 0 || len(x.Calls) < api.TallyCalls && r.below(2) == 0 {
		c := anyCalls(r, x, 1)[0]
		if c.Kind == api.TallyPort && r.below(3) > 0 { // mostly one that can be right
			if s, e := tally.Shorn(x, c.At); e == api.OK {
				c.Sheep = r.span(s.Lo, s.Hi, 5)
			}
		}
		y.Calls = append(y.Calls, c)
		return y
	}
	i := r.below(len(x.Calls))
	s := x.Calls[i].Sheep
	y.Calls[i].Sheep = r.span(s.Lo, s.Hi, s.Hi-s.Lo)
	return y
}

// P5.8 and P2: with a call more, or one that is known better, nothing is returned less exactly; no fewer calls must be false, and at most one more.
func TestKnownBetter(t *testing.T) {
	r := chance(2)
	compared, wronger := 0, 0
	for i := range 1200 {
		limits := small()
		if i%2 == 0 {
			limits = big()
		}
		x := anyTally(&r, limits)
		y := better(&r, x)
		asked := anyCalls(&r, x, 3)
		before, e := reportOf(x, asked)
		now, f := reportOf(y, asked)
		if e == api.ErrClash && f != api.ErrClash {
			t.Fatal(x, y, f)
		}
		if f == api.OK {
			compared++
			if !asExact(now, before) {
				t.Fatal(x, y, before, now)
			}
		}
		many, _, e := tally.False(x)
		nowMany, _, f := tally.False(y)
		if e != f || nowMany < many || nowMany > many+1 {
			t.Fatal(x, y, many, e, nowMany, f)
		}
		if nowMany > many {
			wronger++
		}
	}
	if compared < 300 || wronger < 100 {
		t.Error("too few compared", compared, wronger)
	}
}

// P2: with strays that are known better, nothing is returned less exactly.
func TestStraysKnownBetter(t *testing.T) {
	r := chance(3)
	compared := 0
	for range 400 {
		x := anyTally(&r, big())
		if x.Shearers == 1 {
			continue
		}
		y, asked := clone(x), anyCalls(&r, x, 3)
		i := r.below(len(x.Strays))
		y.Strays[i] = r.span(x.Strays[i].Lo, x.Strays[i].Hi, x.Strays[i].Hi-x.Strays[i].Lo)
		before, _ := reportOf(x, asked)
		now, e := reportOf(y, asked)
		if e == api.OK {
			compared++
			if !asExact(now, before) {
				t.Fatal(x, y, before, now)
			}
		}
	}
	if compared < 60 {
		t.Error("too few compared", compared)
	}
}

// happening returns a tally of what truly happened, of which all calls are right, and it.
func happening(r *chance) (api.Tally, truth) {
	x := api.Tally{Shearers: 1 + r.below(api.TallyShearers), Most: r.below(api.TallyMost + 1)}
	for range x.Shearers - 1 {
		x.Strays = append(x.Strays, r.span(-api.TallyStray, api.TallyStray, 3))
	}
	happened, can := anyTruth(r, x)
	if !can {
		return happening(r)
	}
	for range r.below(api.TallyCalls + 1) {
		c := api.TallyCall{Kind: r.below(3), At: r.below(x.Shearers)}
		many := happened.count(c, x.Shearers)
		c.Sheep = span(max(0, many-r.below(4)), min(api.TallySheep, many+r.below(4)))
		x.Calls = append(x.Calls, c)
	}
	return x, happened
}

func holds(s api.Span, n int) bool { return s.Lo <= n && n <= s.Hi }

// P5.7: each true number is within what is returned, none of the calls must be false, and a call of the true number can be right.
func TestTrueNumbers(t *testing.T) {
	r := chance(4)
	for range 300 {
		x, happened := happening(&r)
		shearers := x.Shearers
		if many, calls, e := tally.False(x); many != 0 || calls != 0 || e != api.OK {
			t.Fatal(x, many, calls, e)
		}
		for n := range shearers {
			shorn, _ := tally.Shorn(x, n)
			pens, _ := tally.Pen(x, n)
			if !holds(shorn, happened.shorn[n]) || !holds(pens, happened.pens[n]) {
				t.Fatal(x, happened, n, shorn, pens)
			}
			if n < shearers-1 {
				if strays, e := tally.Stray(x, n); !holds(strays, happened.strays[n]) || e != api.OK {
					t.Fatal(x, happened, n, strays, e)
				}
			}
			for last := n; last < shearers; last++ {
				if s, e := tally.Together(x, n, last); !holds(s, happened.together(n, last)) || e != api.OK {
					t.Fatal(x, happened, n, last, s, e)
				}
			}
			for kind := range 3 {
				c := api.TallyCall{Kind: kind, At: n}
				c.Sheep = exactly(happened.count(c, shearers))
				if fits, e := tally.Fits(x, c); fits == api.TallyNever || e != api.OK {
					t.Fatal(x, happened, c, fits, e)
				}
			}
		}
	}
}

// P5.7: each integer of a span, and none beyond it, can be called too.
func TestEachNumber(t *testing.T) {
	r := chance(5)
	for range 40 {
		x, _ := happening(&r)
		n := r.below(x.Shearers)
		shorn, _ := tally.Shorn(x, n)
		pens, _ := tally.Pen(x, n)
		sheep, _ := tally.Together(x, 0, x.Shearers-1)
		for kind, s := range []api.Span{shorn, pens, sheep} {
			for many := range api.TallySheep + 1 {
				fits, e := tally.Fits(x, api.TallyCall{Kind: kind, At: n, Sheep: exactly(many)})
				if holds(s, many) == (fits == api.TallyNever) || (s == exactly(many)) != (fits == api.TallyAlways) || e != api.OK {
					t.Fatal(x, kind, n, s, many, fits, e)
				}
			}
		}
	}
}

// P5.7: what all have shorn together is what there is in all pens.
func TestAllPens(t *testing.T) {
	r := chance(6)
	for range 200 {
		x, happened := happening(&r)
		x.Calls = nil
		for n := range x.Shearers {
			x.Calls = append(x.Calls, pen(n, happened.pens[n], happened.pens[n]))
		}
		all := happened.together(0, x.Shearers-1)
		if got, e := tally.Together(x, 0, x.Shearers-1); got != exactly(all) || e != api.OK {
			t.Fatal(x, happened, got, e, "want", all)
		}
		if got, e := tally.Fits(x, fleeces(all, all)); got != api.TallyAlways || e != api.OK {
			t.Fatal(x, got, e)
		}
	}
}

// without returns the tally without a set of its calls.
func without(x api.Tally, set int) api.Tally {
	var calls []api.TallyCall
	for number, c := range x.Calls {
		if set>>number&1 == 0 {
			calls = append(calls, c)
		}
	}
	x.Calls = calls
	return x
}

// P5.4 to P5.6, where there are too many truths to find each: what is named is what it is said to be.
func TestNamedCalls(t *testing.T) {
	r := chance(8)
	clashes := 0
	for range 500 {
		x := anyTally(&r, big())
		w := wrongsOf(x)
		if w.clashes == api.ErrNone || w.e != api.OK {
			continue
		}
		clashes++
		all := 1<<len(x.Calls) - 1
		_, e := tally.Shorn(without(x, w.calls), 0)
		_, f := tally.Shorn(without(x, all&^w.clash), 0)
		if e != api.OK || f != api.ErrClash {
			t.Fatal(x, w, e, f)
		}
		if w.many != bits.OnesCount(uint(w.calls)) || w.many == 0 || w.calls&^w.suspects != 0 {
			t.Fatal(x, w)
		}
		for call := range x.Calls {
			many, _, e := tally.False(without(x, 1<<call))
			if suspected := w.suspects>>call&1 == 1; suspected != (many == w.many-1) || e != api.OK {
				t.Fatal(x, w, call, many, e)
			}
		}
	}
	if clashes < 60 {
		t.Error("clashes", clashes)
	}
}

// turned returns the tally with its calls in another order: the call i of it is the call order[i].
func turned(x api.Tally, order []int) api.Tally {
	y := clone(x)
	for i, from := range order {
		y.Calls[i] = x.Calls[from]
	}
	return y
}

// P5.8 and P13: the order of calls makes no difference but to their numbers.
func TestOrderOfCalls(t *testing.T) {
	r := chance(9)
	for range 300 {
		x := anyTally(&r, big())
		var order []int
		for i := range x.Calls {
			order = slices.Insert(order, r.below(i+1), i)
		}
		y, asked := turned(x, order), anyCalls(&r, x, 4)
		before, e := reportOf(x, asked)
		now, f := reportOf(y, asked)
		if e != f || !asExact(now, before) || !asExact(before, now) {
			t.Fatal(x, y, before, now, e, f)
		}
		v, w := wrongsOf(x), wrongsOf(y)
		suspects := 0
		for i, from := range order {
			suspects |= v.suspects >> from & 1 << i
		}
		if v.many != w.many || suspects != w.suspects || v.e != w.e || v.clashes != w.clashes || bits.OnesCount(uint(v.clash)) != bits.OnesCount(uint(w.clash)) {
			t.Fatal(x, y, v, w)
		}
	}
}

// mirrored returns the tally as it is numbered from the other side.
func mirrored(x api.Tally) api.Tally {
	y := clone(x)
	slices.Reverse(y.Strays)
	for i, s := range y.Strays {
		y.Strays[i] = span(-s.Hi, -s.Lo)
	}
	for i := range y.Calls {
		y.Calls[i].At = x.Shearers - 1 - y.Calls[i].At
	}
	return y
}

// P5.8: if shearers and pens are numbered from the other side, and strays go the other way, only numbers change.
func TestOtherSide(t *testing.T) {
	r := chance(10)
	for range 300 {
		x := anyTally(&r, big())
		y := mirrored(x)
		if v, w := wrongsOf(x), wrongsOf(y); v != w {
			t.Fatal(x, y, v, w)
		}
		before, e := reportOf(x, nil)
		now, f := reportOf(y, nil)
		slices.Reverse(now.shorn)
		slices.Reverse(now.pens)
		slices.Reverse(now.strays)
		for i, s := range now.strays {
			now.strays[i] = span(-s.Hi, -s.Lo)
		}
		if e != f || !slices.Equal(before.shorn, now.shorn) || !slices.Equal(before.pens, now.pens) || !slices.Equal(before.strays, now.strays) {
			t.Fatal(x, y, before, now, e, f)
		}
		for first := range x.Shearers {
			for last := first; last < x.Shearers; last++ {
				one, other := fromSpan(tally.Together(x, first, last)), fromSpan(tally.Together(y, x.Shearers-1-last, x.Shearers-1-first))
				if one != other {
					t.Fatal(x, first, last, one, other)
				}
			}
		}
	}
}
