package pay_test

import (
	"slices"
	"testing"

	"shearworks/api"
	"shearworks/pay"
)

// report is all that can be said of a pay, but for the numbers of calls.
type report struct {
	sheep, outs, wages, left []api.Span
	shares                   []int
	wrong, check             result
}

// reportOf returns ErrClash if there is no truth.
func reportOf(p api.Pay) (r report, e api.Errno) {
	for who := range p.People {
		for run := range p.Runs {
			sheep, _ := pay.Sheep(p, who, run)
			r.sheep = append(r.sheep, sheep)
		}
		wages, _ := pay.Wages(p, who)
		left, _ := pay.Left(p, who)
		share, _ := pay.Mess(p, who)
		r.wages, r.left, r.shares = append(r.wages, wages), append(r.left, left), append(r.shares, share)
	}
	for run := range p.Runs {
		var out api.Span
		out, e = pay.Out(p, run)
		r.outs = append(r.outs, out)
	}
	r.wrong, r.check = fromInt(pay.Wrong(p)), fromTwo(pay.Check(p))
	return r, e
}

func same(a, b report) bool {
	return sameSpans(a, b, func(x, y api.Span) bool { return x == y }) &&
		slices.Equal(a.shares, b.shares) && a.wrong == b.wrong && a.check == b.check
}

func sameSpans(a, b report, compare func(x, y api.Span) bool) bool {
	return slices.EqualFunc(a.sheep, b.sheep, compare) && slices.EqualFunc(a.outs, b.outs, compare) &&
		slices.EqualFunc(a.wages, b.wages, compare) && slices.EqualFunc(a.left, b.left, compare)
}

func inSpan(inner, outer api.Span) bool { return outer.Lo <= inner.Lo && inner.Hi <= outer.Hi }

// clone returns a pay that shares nothing with another one.
func clone(p api.Pay) api.Pay {
	p.Runs, p.Calls = slices.Clone(p.Runs), slices.Clone(p.Calls)
	p.Days, p.Paid = slices.Clone(p.Days), slices.Clone(p.Paid)
	return p
}

// part returns a part of a span.
func (c *chance) part(s api.Span) api.Span {
	lo := c.in(s)
	return span(lo, c.in(span(lo, s.Hi)))
}

// anyOf returns a pay of few sheep, or of many ones.
func anyOf(c *chance, i int) api.Pay {
	if i%2 == 0 {
		return anyPay(c, small())
	}
	return anyPay(c, big())
}

// compareBetter tells whether two pays could be compared, of which the second one is known better: it is not if there is no truth.
func compareBetter(t *testing.T, p, better api.Pay) bool {
	t.Helper()
	before, e := reportOf(p)
	now, f := reportOf(better)
	if e == api.ErrClash && f != api.ErrClash || f == api.OK && !sameSpans(now, before, inSpan) {
		t.Fatal(p, better, before, e, now, f)
	}
	return f == api.OK
}

// P10.9 and P2: with a call that is known better, or a run that is counted better, no span is wider.
func TestKnownBetter(t *testing.T) {
	for name, improve := range map[string]func(c *chance, p *api.Pay){
		"call": func(c *chance, p *api.Pay) {
			if len(p.Calls) > 0 {
				number := c.below(len(p.Calls))
				p.Calls[number].Sheep = c.part(p.Calls[number].Sheep)
			}
		},
		"called again": func(c *chance, p *api.Pay) {
			who, run := c.below(p.People), c.below(len(p.Runs))
			if stands := standsFor(*p, who, run); stands >= 0 && len(p.Calls) < api.PayCalls {
				sheep := c.part(p.Calls[stands].Sheep)
				p.Calls = append(p.Calls, call(who, run, sheep.Lo, sheep.Hi))
			}
		},
		"run": func(c *chance, p *api.Pay) {
			run := c.below(len(p.Runs))
			p.Runs[run] = c.part(p.Runs[run])
		},
	} {
		c := chance(4)
		compared := 0
		for i := range 1500 {
			p := anyOf(&c, i)
			better := clone(p)
			improve(&c, &better)
			if compareBetter(t, p, better) {
				compared++
			}
		}
		if compared < 400 {
			t.Error("too few compared", name, compared)
		}
	}
}

// P10.9: what is struck, or called before, makes no difference, whether it is left out, or says something else.
func TestStruckOrCalledBefore(t *testing.T) {
	c := chance(6)
	many := 0
	for i := range 1500 {
		p := anyOf(&c, i)
		without, other := clone(p), clone(p)
		without.Calls = nil
		for number, x := range p.Calls {
			if standsFor(p, x.Who, x.Run) == number {
				without.Calls = append(without.Calls, x)
				continue
			}
			many++
			other.Calls[number].Sheep = c.around(c.below(api.PaySheep+1), api.PaySheep, 9)
			if x.Struck {
				other.Calls[number].Who, other.Calls[number].Run = c.below(p.People), c.below(len(p.Runs))
			}
		}
		before, e := reportOf(p)
		for _, now := range []api.Pay{without, other} {
			if r, f := reportOf(now); e != f || !same(before, r) {
				t.Fatal(p, now, before, e, r, f)
			}
		}
		compareCalls(t, without)
		for who := range p.People {
			for run := range p.Runs {
				if was, is := fromInt(pay.Stands(p, who, run)), fromInt(pay.Stands(other, who, run)); was != is {
					t.Fatal(p, other, who, run, was, is)
				}
			}
		}
	}
	if many < 1000 {
		t.Error("too few", many)
	}
}

// P13: the order of calls of which each is of another shearer, or of another run, makes no difference; and that of payments changes no span.
func TestOrder(t *testing.T) {
	c := chance(8)
	for i := range 800 {
		p := anyOf(&c, i)
		now := clone(p)
		slices.SortStableFunc(now.Calls, func(a, b api.PayCall) int { return (b.Run-a.Run)*api.PayPeople + b.Who - a.Who })
		before, e := reportOf(p)
		if r, f := reportOf(now); e != f || !same(before, r) {
			t.Fatal(p, now, before, e, r, f)
		}
		slices.Reverse(now.Paid)
		r, f := reportOf(now)
		if before.check.e != r.check.e {
			t.Fatal(p, before.check, r.check)
		}
		if r.check = before.check; e != f || !same(before, r) {
			t.Fatal(p, now, before, e, r, f)
		}
	}
}

// happening returns a pay of what truly was shorn, and of how many sheep that were.
func happening(c *chance) (p api.Pay, happened truth) {
	p = anyPay(c, big())
	p.Calls = nil
	for run := range p.Runs {
		for who := range p.People {
			if len(p.Calls) == api.PayCalls || c.below(6) == 0 {
				continue
			}
			happened[who][run] = c.below(api.PaySheep + 1)
			p.Calls = append(p.Calls, api.PayCall{Who: who, Run: run, Sheep: c.around(happened[who][run], api.PaySheep, 9)})
		}
		p.Runs[run] = c.around(happened.out(run), api.PayOut, 9)
	}
	p.Paid = nil
	return p, happened
}

// P10.9 and P2: however many sheep truly were shorn, as many are within what is returned; and whoever is paid what was earned, once, breaks no rule.
func TestTrueSheep(t *testing.T) {
	c := chance(9)
	for range 500 {
		p, happened := happening(&c)
		for _, x := range p.Calls {
			if len(p.Paid) < api.PayPays {
				p.Paid = append(p.Paid, paid(x.Who, x.Run, happened[x.Who][x.Run]*p.Rate/100))
			}
		}
		said, e := reportOf(p)
		if e != api.OK || said.wrong != failed(api.ErrNone) || said.check != failed(api.ErrNone) {
			t.Fatal(p, happened, said, e)
		}
		for who := range p.People {
			left := happened.wages(p, who) - said.shares[who]
			for _, m := range p.Paid {
				if m.Who == who {
					left -= m.Pence
				}
			}
			if !holds(said.wages[who], happened.wages(p, who)) || !holds(said.left[who], left) {
				t.Fatal(p, happened, who, said)
			}
			for run := range p.Runs {
				if !holds(said.sheep[who*len(p.Runs)+run], happened[who][run]) || !holds(said.outs[run], happened.out(run)) {
					t.Fatal(p, happened, who, run, said)
				}
			}
		}
	}
}

// P10.9: both ends of a span are those of a truth: there still is one if the call that stands says just that, and none if it says one more, or one less.
func TestEnds(t *testing.T) {
	c := chance(10)
	ends := 0
	for i := range 600 {
		p := anyOf(&c, i)
		if fromInt(pay.Wrong(p)) != failed(api.ErrNone) {
			continue
		}
		for number, x := range p.Calls {
			if standsFor(p, x.Who, x.Run) != number {
				continue
			}
			s, _ := pay.Sheep(p, x.Who, x.Run)
			for _, n := range []int{s.Lo - 1, s.Lo, s.Hi, s.Hi + 1} {
				known := clone(p)
				known.Calls[number].Sheep = exactly(n)
				if !holds(x.Sheep, n) {
					continue
				}
				ends++
				if truth := fromInt(pay.Wrong(known)) == failed(api.ErrNone); truth != holds(s, n) {
					t.Fatal(p, x, n, s, truth)
				}
			}
		}
	}
	if ends < 1000 {
		t.Error("too few", ends)
	}
}
