package pay_test

import (
	"slices"
	"testing"

	"shearworks/api"
	"shearworks/pay"
)

func span(lo, hi int) api.Span { return api.Span{Lo: lo, Hi: hi} }

func exactly(n int) api.Span { return span(n, n) }

func call(who, run, lo, hi int) api.PayCall {
	return api.PayCall{Who: who, Run: run, Sheep: span(lo, hi)}
}

// struck is a call that was.
func struck(who, run, lo, hi int) api.PayCall {
	return api.PayCall{Who: who, Run: run, Sheep: span(lo, hi), Struck: true}
}

func paid(who, run, pence int) api.PayPaid { return api.PayPaid{Who: who, Run: run, Pence: pence} }

// payX is the pay X of the chapter, with payments.
func payX(payments ...api.PayPaid) api.Pay {
	return api.Pay{
		People: 2, Runs: []api.Span{span(50, 52), span(20, 25)},
		Calls: []api.PayCall{call(0, 0, 28, 30), call(1, 0, 20, 24), call(0, 1, 22, 22), call(0, 0, 26, 28), struck(1, 1, 15, 25)},
		Rate:  150, Bill: 100, Days: []int{6, 3}, Paid: payments,
	}
}

// paidX is the pay X with its payments.
func paidX() api.Pay { return payX(paid(0, 0, 30), paid(1, 0, 36), paid(0, 0, 5), paid(1, 1, 5)) }

// payY is the pay Y of the chapter, of which the run 1 was counted wrongly.
func payY(payments ...api.PayPaid) api.Pay {
	p := payX(payments...)
	p.Calls[4].Struck = false
	return p
}

// oneRun is a pay of one run, and of nothing but calls.
func oneRun(people int, out api.Span, calls ...api.PayCall) api.Pay {
	return api.Pay{People: people, Runs: []api.Span{out}, Calls: calls, Days: make([]int, people)}
}

// alone is a pay of one shearer, who was called to have shorn so many sheep in each run.
func alone(rate int, sheep ...api.Span) api.Pay {
	p := api.Pay{People: 1, Rate: rate, Days: []int{0}}
	for run, s := range sheep {
		p.Runs = append(p.Runs, span(0, api.PayOut))
		p.Calls = append(p.Calls, call(0, run, s.Lo, s.Hi))
	}
	return p
}

// bill is a pay of nothing but the cook's.
func bill(pence int, days ...int) api.Pay {
	return api.Pay{People: len(days), Runs: []api.Span{span(0, 9)}, Bill: pence, Days: days}
}

// P10.1
func TestStands(t *testing.T) {
	none := failed(api.ErrNone)
	of := func(n int) result { return fromInt(n, api.OK) }
	again := oneRun(2, span(0, 400), call(0, 0, 5, 5), call(1, 0, 6, 6), call(0, 0, 7, 7), struck(0, 0, 8, 8))
	all := oneRun(1, span(0, 400), struck(0, 0, 5, 5), struck(0, 0, 6, 6))
	cross := api.Pay{People: 2, Runs: []api.Span{span(0, 400), span(0, 400)}, Days: []int{0, 0}, Calls: []api.PayCall{call(0, 1, 1, 1), call(1, 0, 1, 1)}}
	twelve := oneRun(1, span(0, 400), slices.Repeat([]api.PayCall{call(0, 0, 5, 5)}, 12)...)
	for i, x := range []struct {
		p        api.Pay
		who, run int
		want     result
	}{
		{payX(), 0, 0, of(3)}, {payX(), 1, 0, of(1)}, {payX(), 0, 1, of(2)}, {payX(), 1, 1, none},
		// Without a truth it is told too.
		{payY(), 0, 0, of(3)}, {payY(), 1, 1, of(4)},
		// The call that was struck gives way to the one before it.
		{again, 0, 0, of(2)}, {again, 1, 0, of(1)},
		{all, 0, 0, none},
		{cross, 0, 0, none}, {cross, 0, 1, of(0)}, {cross, 1, 0, of(1)}, {cross, 1, 1, none},
		{twelve, 0, 0, of(11)},
		{bill(5, 1), 0, 0, none},
	} {
		if got := fromInt(pay.Stands(x.p, x.who, x.run)); got != x.want {
			t.Error(i, got, "want", x.want)
		}
	}
}

// P10.2
func TestSheep(t *testing.T) {
	three := func(out api.Span) api.Pay {
		return oneRun(3, out, call(0, 0, 10, 20), call(1, 0, 0, 5), call(2, 0, 30, 32))
	}
	for i, x := range []struct {
		p     api.Pay
		run   int
		sheep []api.Span
		out   api.Span
	}{
		{payX(), 0, []api.Span{span(26, 28), span(22, 24)}, span(50, 52)},
		{payX(), 1, []api.Span{exactly(22), exactly(0)}, exactly(22)},
		// What is counted out tells nothing, or of one end, or all.
		{three(span(0, 400)), 0, []api.Span{span(10, 20), span(0, 5), span(30, 32)}, span(40, 57)},
		{three(span(40, 57)), 0, []api.Span{span(10, 20), span(0, 5), span(30, 32)}, span(40, 57)},
		{three(span(0, 40)), 0, []api.Span{exactly(10), exactly(0), exactly(30)}, exactly(40)},
		{three(span(57, 400)), 0, []api.Span{exactly(20), exactly(5), exactly(32)}, exactly(57)},
		{three(span(0, 43)), 0, []api.Span{span(10, 13), span(0, 3), span(30, 32)}, span(40, 43)},
		{three(span(54, 400)), 0, []api.Span{span(17, 20), span(2, 5), span(30, 32)}, span(54, 57)},
		{three(exactly(48)), 0, []api.Span{span(11, 18), span(0, 5), span(30, 32)}, exactly(48)},
		// A shearer for whom no call stands has shorn none, and so do all if none does for anybody.
		{oneRun(2, span(3, 4), call(1, 0, 0, 9)), 0, []api.Span{exactly(0), span(3, 4)}, span(3, 4)},
		{oneRun(2, span(0, 4), struck(1, 0, 1, 9)), 0, []api.Span{exactly(0), exactly(0)}, exactly(0)},
		{oneRun(4, exactly(400), call(0, 0, 0, 100), call(1, 0, 0, 100), call(2, 0, 0, 100), call(3, 0, 0, 100)), 0, slices.Repeat([]api.Span{exactly(100)}, 4), exactly(400)},
	} {
		for who, want := range x.sheep {
			if got := fromSpan(pay.Sheep(x.p, who, x.run)); got != fromSpan(want, api.OK) {
				t.Error(i, who, got, "want", want)
			}
		}
		if got := fromSpan(pay.Out(x.p, x.run)); got != fromSpan(x.out, api.OK) {
			t.Error(i, got, "want", x.out)
		}
	}
}

// P10.3
func TestWages(t *testing.T) {
	for i, x := range []struct {
		p    api.Pay
		who  int
		want api.Span
	}{
		{payX(), 0, span(72, 75)},
		{payX(), 1, span(33, 36)},
		{alone(150, span(1, 2)), 0, span(1, 3)},
		// Each run is rounded down by itself.
		{alone(150, exactly(1), exactly(1)), 0, exactly(2)},
		{alone(99, exactly(1), exactly(1), exactly(1), span(1, 2)), 0, span(0, 1)},
		{alone(1000, exactly(100), exactly(100), exactly(100), exactly(100)), 0, exactly(4000)},
		{alone(0, span(0, 100)), 0, exactly(0)},
		{alone(1, span(99, 100)), 0, span(0, 1)},
		// What is counted out tells of wages too.
		{api.Pay{People: 2, Runs: []api.Span{exactly(50), span(0, 9)}, Calls: []api.PayCall{call(0, 0, 20, 40), call(1, 0, 18, 25), call(0, 1, 7, 100)}, Rate: 200, Days: []int{1, 1}}, 0, span(64, 82)},
		{bill(5, 1), 0, exactly(0)},
	} {
		if got := fromSpan(pay.Wages(x.p, x.who)); got != fromSpan(x.want, api.OK) {
			t.Error(i, got, "want", x.want)
		}
	}
}

// P10.4
func TestMess(t *testing.T) {
	for i, x := range []struct {
		p      api.Pay
		shares []int
	}{
		{payX(), []int{67, 33}},
		{payY(), []int{67, 33}}, // without a truth too
		{bill(100, 3, 3), []int{50, 50}},
		// Of several with one rest those with the least numbers pay more.
		{bill(100, 1, 1, 1), []int{34, 33, 33}},
		{bill(101, 5, 5, 5), []int{34, 34, 33}},
		{bill(3, 10, 10, 10, 10), []int{1, 1, 1, 0}},
		{bill(5, 1, 3, 3), []int{1, 2, 2}},
		{bill(9, 4, 1, 1), []int{6, 2, 1}},
		{bill(3, 1, 5), []int{1, 2}}, // the days differ, the rests do not
		{bill(3, 5, 1), []int{3, 0}},
		// The greatest rest is not that of the first one, or of the one with the most days.
		{bill(10, 1, 2, 4), []int{1, 3, 6}},
		{bill(10, 4, 2, 1), []int{6, 3, 1}},
		{bill(2, 1, 9), []int{0, 2}},
		{bill(4, 9, 10, 6), []int{1, 2, 1}},
		// Who has not eaten pays nothing; if nobody has, nobody pays.
		{bill(10000, 7, 0, 7, 1), []int{4667, 0, 4667, 666}},
		{bill(10000, 0, 0, 1), []int{0, 0, 10000}},
		{bill(100, 0, 0), []int{0, 0}},
		{bill(0, 1, 2), []int{0, 0}},
		{bill(1, 10, 10), []int{1, 0}},
		{bill(9999, 10), []int{9999}},
	} {
		for who, want := range x.shares {
			if got := fromInt(pay.Mess(x.p, who)); got != fromInt(want, api.OK) {
				t.Error(i, who, got, "want", want)
			}
		}
	}
}

// P10.5
func TestLeft(t *testing.T) {
	rich := alone(1000, exactly(100))
	rich.Bill, rich.Days = 400, []int{1}
	for i, x := range []struct {
		p    api.Pay
		who  int
		want api.Span
	}{
		{payX(), 0, span(5, 8)},
		{payX(), 1, span(0, 3)},
		{paidX(), 0, span(-30, -27)},
		{paidX(), 1, span(-41, -38)},
		// Payments that must not be were made all the same: twice, for no call, and too much.
		{payX(paid(0, 1, 5), paid(0, 1, 5)), 0, span(-5, -2)},
		{payX(paid(1, 1, 1)), 1, span(-1, 2)},
		{payX(paid(1, 0, 10000)), 1, span(-10000, -9997)},
		{payX(paid(1, 0, 10000)), 0, span(5, 8)},
		{rich, 0, exactly(600)},
		{bill(5, 1, 0), 0, exactly(-5)},
		{bill(5, 1, 0), 1, exactly(0)},
	} {
		if got := fromSpan(pay.Left(x.p, x.who)); got != fromSpan(x.want, api.OK) {
			t.Error(i, got, "want", x.want)
		}
	}
}

// P10.6
func TestCheck(t *testing.T) {
	none := failed(api.ErrNone)
	breaks := func(payment, rule int) result { return fromTwo(payment, rule, api.OK) }
	for i, x := range []struct {
		p    api.Pay
		want result
	}{
		{payX(), none},
		{paidX(), breaks(2, api.PayTwice)},
		// As much as the wage can be is not too much.
		{payX(paid(0, 0, 42), paid(0, 1, 33), paid(1, 0, 36)), none},
		{payX(paid(0, 0, 43)), breaks(0, api.PayMuch)},
		{payX(paid(0, 1, 34)), breaks(0, api.PayMuch)},
		{payX(paid(0, 0, 42), paid(1, 0, 37)), breaks(1, api.PayMuch)},
		// What is counted out tells how much the wage can be.
		{oneRunPaid(span(0, 400), 20), none},
		{oneRunPaid(span(0, 19), 20), breaks(0, api.PayMuch)},
		{oneRunPaid(span(0, 19), 19), none},
		// Without a call there is nothing to be paid for, not even nothing.
		{payX(paid(0, 1, 0), paid(1, 1, 0)), breaks(1, api.PayNone)},
		{payX(paid(0, 0, 0), paid(0, 0, 0)), breaks(1, api.PayTwice)},
		// The first payment comes before the first rule, and then the first rule.
		{payX(paid(1, 1, 99), paid(1, 1, 99)), breaks(0, api.PayNone)},
		{payX(paid(1, 0, 99), paid(1, 0, 5)), breaks(0, api.PayMuch)},
		{payX(paid(1, 0, 5), paid(1, 0, 99)), breaks(1, api.PayTwice)},
		{payX(paid(0, 0, 1), paid(0, 1, 1), paid(1, 0, 1), paid(0, 1, 1)), breaks(3, api.PayTwice)},
		{bill(5, 1), none},
	} {
		if got := fromTwo(pay.Check(x.p)); got != x.want {
			t.Error(i, got, "want", x.want)
		}
	}
}

// oneRunPaid is a pay of which a shearer has shorn from 10 to 20, for a penny each, and was paid.
func oneRunPaid(out api.Span, pence int) api.Pay {
	p := oneRun(1, out, call(0, 0, 10, 20))
	p.Rate, p.Paid = 100, []api.PayPaid{paid(0, 0, pence)}
	return p
}

// P10.7
func TestWrong(t *testing.T) {
	none := failed(api.ErrNone)
	both := payY()
	both.Runs[0] = span(53, 60)
	fourth := alone(0, exactly(1), exactly(2), exactly(3), exactly(4))
	fourth.Runs[3] = span(5, 400)
	for i, x := range []struct {
		p    api.Pay
		want result
	}{
		{payX(), none},
		{payY(), fromInt(2, api.OK)},
		{both, fromInt(3, api.OK)},
		{fourth, fromInt(8, api.OK)},
		// As many as can be are not wrong, one more or less is.
		{oneRun(2, span(30, 400), call(0, 0, 10, 20), call(1, 0, 0, 10)), none},
		{oneRun(2, span(31, 400), call(0, 0, 10, 20), call(1, 0, 0, 10)), fromInt(1, api.OK)},
		{oneRun(2, span(0, 10), call(0, 0, 10, 20), call(1, 0, 0, 10)), none},
		{oneRun(2, span(0, 9), call(0, 0, 10, 20), call(1, 0, 0, 10)), fromInt(1, api.OK)},
		// What was struck, or called before, does not count; without a call none were shorn.
		{oneRun(1, exactly(5), call(0, 0, 9, 9), call(0, 0, 5, 5), struck(0, 0, 7, 7)), none},
		{oneRun(1, exactly(9), call(0, 0, 9, 9), call(0, 0, 5, 5), struck(0, 0, 7, 7)), fromInt(1, api.OK)},
		{oneRun(4, exactly(1)), fromInt(1, api.OK)},
		{oneRun(4, exactly(0)), none},
	} {
		if got := fromInt(pay.Wrong(x.p)); got != x.want {
			t.Error(i, got, "want", x.want)
		}
	}
}
