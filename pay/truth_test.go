package pay_test

import (
	"slices"
	"testing"

	"shearworks/api"
	"shearworks/pay"
)

// chance is a sequence of numbers that is the same in each run.
type chance uint64

func (c *chance) below(n int) int {
	*c = *c*6364136223846793005 + 1442695040888963407
	return int(uint64(*c)>>33) % n
}

// in returns an integer of a span.
func (c *chance) in(s api.Span) int { return s.Lo + c.below(s.Hi-s.Lo+1) }

// around returns a span within 0..high that contains a number, and is at most so wide on both sides of it.
func (c *chance) around(n, high, wide int) api.Span {
	return span(max(0, n-c.below(wide+1)), min(high, n+c.below(wide+1)))
}

// truth is how many sheep each shearer has shorn in each run.
type truth [api.PayPeople][api.PayRuns]int

func (t truth) out(run int) int {
	all := 0
	for who := range t {
		all += t[who][run]
	}
	return all
}

func (t truth) wages(p api.Pay, who int) int {
	all := 0
	for run := range p.Runs {
		all += t[who][run] * p.Rate / 100
	}
	return all
}

// standsFor finds the call that stands by its own words; it returns -1 if there is none.
func standsFor(p api.Pay, who, run int) int {
	for number, c := range p.Calls {
		stands := c.Who == who && c.Run == run && !c.Struck
		for _, later := range p.Calls[number+1:] {
			if later.Who == who && later.Run == run && !later.Struck {
				stands = false
			}
		}
		if stands {
			return number
		}
	}
	return -1
}

// shornBy returns how many sheep were called.
func shornBy(p api.Pay, who, run int) api.Span {
	if number := standsFor(p, who, run); number >= 0 {
		return p.Calls[number].Sheep
	}
	return api.Span{}
}

func holds(s api.Span, n int) bool { return s.Lo <= n && n <= s.Hi }

// everyTruth returns each truth, one by one; of the runs of a set only.
func everyTruth(p api.Pay, runs int) (list []truth) {
	var follow func(t truth, who, run int)
	follow = func(t truth, who, run int) {
		switch {
		case run == len(p.Runs):
			list = append(list, t)
		case runs>>run&1 == 0:
			follow(t, 0, run+1)
		case who < p.People:
			s := shornBy(p, who, run)
			for n := s.Lo; n <= s.Hi; n++ {
				t[who][run] = n
				follow(t, who+1, run)
			}
		case holds(p.Runs[run], t.out(run)):
			follow(t, 0, run+1)
		}
	}
	follow(truth{}, 0, 0)
	return list
}

// allRuns is the set of them.
func allRuns(p api.Pay) int { return 1<<len(p.Runs) - 1 }

func spanOver(list []truth, of func(t truth) int) api.Span {
	s := exactly(of(list[0]))
	for _, t := range list {
		s.Lo, s.Hi = min(s.Lo, of(t)), max(s.Hi, of(t))
	}
	return s
}

// shares gives each shearer what the part is at least, and then penny by penny what is left to the one whose part is missed by most.
func shares(p api.Pay) []int {
	list, all, given := make([]int, p.People), 0, 0
	for _, days := range p.Days {
		all += days
	}
	if all == 0 {
		return list
	}
	misses := func(who int) int { return p.Bill*p.Days[who] - list[who]*all }
	for who := range list {
		for misses(who) >= all {
			list[who]++
			given++
		}
	}
	for ; given < p.Bill; given++ {
		most := 0
		for who := range list {
			if misses(who) > misses(most) {
				most = who
			}
		}
		list[most]++
	}
	return list
}

// checked finds the first payment that breaks a rule by the words of each rule.
func checked(p api.Pay, list []truth) result {
	for number, m := range p.Paid {
		for _, before := range p.Paid[:number] {
			if before.Who == m.Who && before.Run == m.Run {
				return fromTwo(number, api.PayTwice, api.OK)
			}
		}
		if standsFor(p, m.Who, m.Run) < 0 {
			return fromTwo(number, api.PayNone, api.OK)
		}
		if !slices.ContainsFunc(list, func(t truth) bool { return t[m.Who][m.Run]*p.Rate/100 >= m.Pence }) {
			return fromTwo(number, api.PayMuch, api.OK)
		}
	}
	return failed(api.ErrNone)
}

// size is how many shearers, runs and calls a pay of random numbers has at most, and how wide its spans are.
type size struct{ people, runs, calls, wide int }

func small() size { return size{people: 3, runs: 2, calls: 8, wide: 1} }

func big() size {
	return size{people: api.PayPeople, runs: api.PayRuns, calls: api.PayCalls, wide: 30}
}

// anyPay returns a valid pay; its counts mostly are right.
func anyPay(c *chance, z size) api.Pay {
	p := api.Pay{People: 1 + c.below(z.people), Rate: c.below(api.PayRate + 1), Bill: c.below(api.PayBill + 1)}
	if c.below(2) == 0 {
		p.Rate, p.Bill = c.below(300), c.below(100)
	}
	runs := 1 + c.below(z.runs)
	for range c.below(z.calls + 1) {
		sheep := c.around(c.below(api.PaySheep+1), api.PaySheep, z.wide)
		p.Calls = append(p.Calls, api.PayCall{Who: c.below(p.People), Run: c.below(runs), Sheep: sheep, Struck: c.below(4) == 0})
	}
	for run := range runs {
		out := 0
		for who := range p.People {
			out += c.in(shornBy(p, who, run))
		}
		if c.below(6) == 0 {
			out = min(api.PayOut, max(0, out+c.in(span(-4*z.wide, 4*z.wide))))
		}
		p.Runs = append(p.Runs, c.around(out, api.PayOut, 1+c.below(z.wide+1)))
	}
	for range p.People {
		p.Days = append(p.Days, c.below(api.PayDays+1))
	}
	for range c.below(api.PayPays + 1) {
		p.Paid = append(p.Paid, anyPayment(c, p))
	}
	return p
}

// anyPayment returns one that is about as great as the wage can be.
func anyPayment(c *chance, p api.Pay) api.PayPaid {
	who, run := c.below(p.People), c.below(len(p.Runs))
	wage := c.in(shornBy(p, who, run)) * p.Rate / 100
	return paid(who, run, max(0, wage+c.below(3)-1))
}

// P10.1 to P10.7, and P10.9: what is returned is what all truths, found one by one, say together; both ends of each span are those of one.
func TestAgainstEachTruth(t *testing.T) {
	c := chance(1)
	clashes, rules := 0, map[int]int{}
	for range 3000 {
		p := anyPay(&c, small())
		compareCalls(t, p)
		list := everyTruth(p, allRuns(p))
		if len(list) > 0 {
			compare(t, p, list)
			_, rule, _ := pay.Check(p)
			rules[rule]++
			continue
		}
		clashes++
		runs := 0
		for run := range p.Runs {
			if len(everyTruth(p, 1<<run)) == 0 {
				runs |= 1 << run
			}
		}
		if got := fromInt(pay.Wrong(p)); got != fromInt(runs, api.OK) {
			t.Fatal(p, got, "want", runs)
		}
		if got := fromTwo(pay.Check(p)); got != failed(api.ErrClash) {
			t.Fatal(p, got)
		}
	}
	if clashes < 200 || clashes > 1500 {
		t.Error("clashes", clashes)
	}
	for _, rule := range []int{0, api.PayTwice, api.PayNone, api.PayMuch} {
		if rules[rule] < 100 {
			t.Error("too few", rule, rules)
		}
	}
}

// compareCalls compares what is returned also without a truth.
func compareCalls(t *testing.T, p api.Pay) {
	t.Helper()
	for who, want := range shares(p) {
		if got := fromInt(pay.Mess(p, who)); got != fromInt(want, api.OK) {
			t.Fatal(p, "Mess", who, got, "want", want)
		}
		for run := range p.Runs {
			want := failed(api.ErrNone)
			if number := standsFor(p, who, run); number >= 0 {
				want = fromInt(number, api.OK)
			}
			if got := fromInt(pay.Stands(p, who, run)); got != want {
				t.Fatal(p, "Stands", who, run, got, "want", want)
			}
		}
	}
}

func compare(t *testing.T, p api.Pay, list []truth) {
	t.Helper()
	for run := range p.Runs {
		out := spanOver(list, func(t truth) int { return t.out(run) })
		if got := fromSpan(pay.Out(p, run)); got != fromSpan(out, api.OK) {
			t.Fatal(p, "Out", run, got, "want", out)
		}
		for who := range p.People {
			want := spanOver(list, func(t truth) int { return t[who][run] })
			if got := fromSpan(pay.Sheep(p, who, run)); got != fromSpan(want, api.OK) {
				t.Fatal(p, "Sheep", who, run, got, "want", want)
			}
		}
	}
	for who, share := range shares(p) {
		gone := share
		for _, m := range p.Paid {
			if m.Who == who {
				gone += m.Pence
			}
		}
		wages := spanOver(list, func(t truth) int { return t.wages(p, who) })
		if got := fromSpan(pay.Wages(p, who)); got != fromSpan(wages, api.OK) {
			t.Fatal(p, "Wages", who, got, "want", wages)
		}
		if got := fromSpan(pay.Left(p, who)); got != fromSpan(span(wages.Lo-gone, wages.Hi-gone), api.OK) {
			t.Fatal(p, "Left", who, got, "want", wages, "less", gone)
		}
	}
	if got, want := fromTwo(pay.Check(p)), checked(p, list); got != want {
		t.Fatal(p, "Check", got, "want", want)
	}
	if got := fromInt(pay.Wrong(p)); got != failed(api.ErrNone) {
		t.Fatal(p, got)
	}
}

// P10.2 and P10.7, for all pays of one run in which two shearers have shorn few sheep.
func TestSmallRuns(t *testing.T) {
	var spans []api.Span
	for lo := range 4 {
		for hi := lo; hi < 4; hi++ {
			spans = append(spans, span(lo, hi))
		}
	}
	for _, first := range spans {
		for _, second := range spans {
			for lo := range 8 {
				for hi := lo; hi < 8; hi++ {
					p := oneRun(2, span(lo, hi), call(1, 0, second.Lo, second.Hi), call(0, 0, first.Lo, first.Hi))
					if list := everyTruth(p, 1); len(list) > 0 {
						compare(t, p, list)
					} else if got := fromInt(pay.Wrong(p)); got != fromInt(1, api.OK) {
						t.Fatal(p, got)
					}
				}
			}
		}
	}
}

// sums returns how many sheep shearers can have shorn together in a run, but for one of them, number by number.
func sums(p api.Pay, run, without int) (can [api.PayOut + 1]bool) {
	can[0] = true
	for who := range p.People {
		if who == without {
			continue
		}
		s, now := shornBy(p, who, run), [api.PayOut + 1]bool{}
		for n := s.Lo; n <= s.Hi; n++ {
			for before := 0; before+n <= api.PayOut; before++ {
				now[before+n] = now[before+n] || can[before]
			}
		}
		can = now
	}
	return can
}

// runOf is what there can be in a run, number by number: how many sheep of each shearer, and of all.
type runOf struct {
	sheep [api.PayPeople]api.Span
	out   api.Span
	can   bool
}

func runBySums(p api.Pay, run int) (r runOf) {
	join := func(s *api.Span, n int, first bool) {
		if first {
			*s = exactly(n)
		}
		s.Lo, s.Hi = min(s.Lo, n), max(s.Hi, n)
	}
	all := sums(p, run, -1)
	for n := p.Runs[run].Lo; n <= p.Runs[run].Hi; n++ {
		if all[n] {
			join(&r.out, n, !r.can)
			r.can = true
		}
	}
	for who := range p.People {
		others, s, first := sums(p, run, who), shornBy(p, who, run), true
		for n := s.Lo; n <= s.Hi; n++ {
			for out := max(n, p.Runs[run].Lo); out <= p.Runs[run].Hi; out++ {
				if others[out-n] {
					join(&r.sheep[who], n, first)
					first = false
				}
			}
		}
	}
	return r
}

// P10.2, P10.3 and P10.7, where there are too many truths to find each: sheep are added number by number.
func TestAgainstSums(t *testing.T) {
	c := chance(2)
	clashes := 0
	for range 800 {
		p := anyPay(&c, big())
		compareCalls(t, p)
		wrong, wages := 0, [api.PayPeople]api.Span{}
		var runs []runOf
		for run := range p.Runs {
			r := runBySums(p, run)
			if !r.can {
				wrong |= 1 << run
			}
			for who := range p.People {
				wages[who].Lo += r.sheep[who].Lo * p.Rate / 100
				wages[who].Hi += r.sheep[who].Hi * p.Rate / 100
			}
			runs = append(runs, r)
		}
		if wrong != 0 {
			clashes++
			if got := fromInt(pay.Wrong(p)); got != fromInt(wrong, api.OK) {
				t.Fatal(p, got, "want", wrong)
			}
			continue
		}
		for run, r := range runs {
			if got := fromSpan(pay.Out(p, run)); got != fromSpan(r.out, api.OK) {
				t.Fatal(p, run, got, "want", r.out)
			}
			for who := range p.People {
				if got := fromSpan(pay.Sheep(p, who, run)); got != fromSpan(r.sheep[who], api.OK) {
					t.Fatal(p, who, run, got, "want", r.sheep[who])
				}
			}
		}
		for who := range p.People {
			if got := fromSpan(pay.Wages(p, who)); got != fromSpan(wages[who], api.OK) {
				t.Fatal(p, who, got, "want", wages[who])
			}
		}
	}
	if clashes < 60 || clashes > 500 {
		t.Error("clashes", clashes)
	}
}

// P10.4 and P10.9: the shares of all are the bill, and each is as near to its part as a penny; for all small bills of three, and great ones.
func TestShares(t *testing.T) {
	for pence := range 16 {
		for days := range 6 * 6 * 6 {
			compareShares(t, bill(pence, days%6, days/6%6, days/36))
		}
	}
	c := chance(3)
	for range 1000 {
		var days []int
		for range 1 + c.below(api.PayPeople) {
			days = append(days, c.below(api.PayDays+1))
		}
		compareShares(t, bill(c.below(api.PayBill+1), days...))
	}
}

func compareShares(t *testing.T, p api.Pay) {
	t.Helper()
	compareCalls(t, p)
	all, sum := 0, 0
	for _, days := range p.Days {
		all += days
	}
	for who, days := range p.Days {
		share, _ := pay.Mess(p, who)
		sum += share
		if beside := share*all - p.Bill*days; beside > all || -beside > all || days == 0 && share != 0 {
			t.Fatal(p, who, share)
		}
	}
	if all > 0 && sum != p.Bill || all == 0 && sum != 0 {
		t.Fatal(p, sum)
	}
}
