package pay_test

import (
	"math"
	"reflect"
	"slices"
	"testing"

	"shearworks/api"
	"shearworks/pay"
)

// result is what a function returned; its numbers in the order in which they stand.
type result struct {
	a, b int
	e    api.Errno
}

func fromSpan(s api.Span, e api.Errno) result { return result{s.Lo, s.Hi, e} }

func fromInt(n int, e api.Errno) result { return result{n, 0, e} }

func fromTwo(a, b int, e api.Errno) result { return result{a, b, e} }

func failed(e api.Errno) result { return result{e: e} }

// callAll calls each function with the same numbers.
func callAll(p api.Pay, who, run int) map[string]result {
	return map[string]result{
		"Stands": fromInt(pay.Stands(p, who, run)),
		"Sheep":  fromSpan(pay.Sheep(p, who, run)),
		"Out":    fromSpan(pay.Out(p, run)),
		"Wages":  fromSpan(pay.Wages(p, who)),
		"Mess":   fromInt(pay.Mess(p, who)),
		"Left":   fromSpan(pay.Left(p, who)),
		"Check":  fromTwo(pay.Check(p)),
		"Wrong":  fromInt(pay.Wrong(p)),
	}
}

// spoilt returns pays of which one thing is not valid, with what it is.
func spoilt() map[string]api.Pay {
	list := map[string]api.Pay{}
	for name, spoil := range map[string]func(p *api.Pay){
		"nothing":             func(p *api.Pay) { *p = api.Pay{} },
		"no people":           func(p *api.Pay) { *p = api.Pay{Runs: p.Runs} },
		"five people":         func(p *api.Pay) { p.People, p.Days = 5, make([]int, 5) },
		"people -1":           func(p *api.Pay) { p.People = -1 },
		"people least":        func(p *api.Pay) { p.People = math.MinInt },
		"people greatest":     func(p *api.Pay) { p.People = math.MaxInt },
		"too few people":      func(p *api.Pay) { p.People, p.Calls, p.Paid = 1, nil, nil },
		"too many people":     func(p *api.Pay) { p.People = 3 },
		"no runs":             func(p *api.Pay) { p.Runs, p.Calls, p.Paid = nil, nil, nil },
		"five runs":           func(p *api.Pay) { p.Runs = make([]api.Span, 5) },
		"run -1":              func(p *api.Pay) { p.Runs[1] = span(-1, 1) },
		"run 401":             func(p *api.Pay) { p.Runs[0] = span(50, 401) },
		"run turned":          func(p *api.Pay) { p.Runs[0] = span(52, 50) },
		"run all":             func(p *api.Pay) { p.Runs[1] = span(math.MinInt, math.MaxInt) },
		"run all turned":      func(p *api.Pay) { p.Runs[1] = span(math.MaxInt, math.MinInt) },
		"thirteen calls":      func(p *api.Pay) { p.Calls = make([]api.PayCall, 13) },
		"caller -1":           func(p *api.Pay) { p.Calls[0].Who = -1 },
		"caller 2":            func(p *api.Pay) { p.Calls[1].Who = 2 },
		"caller least":        func(p *api.Pay) { p.Calls[1].Who = math.MinInt },
		"caller greatest":     func(p *api.Pay) { p.Calls[1].Who = math.MaxInt },
		"called run -1":       func(p *api.Pay) { p.Calls[2].Run = -1 },
		"called run 2":        func(p *api.Pay) { p.Calls[2].Run = 2 },
		"called run greatest": func(p *api.Pay) { p.Calls[3].Run = math.MaxInt },
		"call -1":             func(p *api.Pay) { p.Calls[1].Sheep = span(-1, 24) },
		"call 101":            func(p *api.Pay) { p.Calls[1].Sheep = span(20, 101) },
		"call turned":         func(p *api.Pay) { p.Calls[1].Sheep = span(24, 20) },
		"call all":            func(p *api.Pay) { p.Calls[1].Sheep = span(math.MinInt, math.MaxInt) },
		"call all turned":     func(p *api.Pay) { p.Calls[1].Sheep = span(math.MaxInt, math.MinInt) },
		"struck who 2":        func(p *api.Pay) { p.Calls[4].Who = 2 },
		"struck run 2":        func(p *api.Pay) { p.Calls[4].Run = 2 },
		"struck 101":          func(p *api.Pay) { p.Calls[4].Sheep = span(1, 101) },
		"called again 101":    func(p *api.Pay) { p.Calls[0].Sheep = span(28, 101) },
		"rate -1":             func(p *api.Pay) { p.Rate = -1 },
		"rate 1001":           func(p *api.Pay) { p.Rate = 1001 },
		"rate least":          func(p *api.Pay) { p.Rate = math.MinInt },
		"rate greatest":       func(p *api.Pay) { p.Rate = math.MaxInt },
		"bill -1":             func(p *api.Pay) { p.Bill = -1 },
		"bill 10001":          func(p *api.Pay) { p.Bill = 10001 },
		"bill least":          func(p *api.Pay) { p.Bill = math.MinInt },
		"bill greatest":       func(p *api.Pay) { p.Bill = math.MaxInt },
		"no days":             func(p *api.Pay) { p.Days = nil },
		"one day":             func(p *api.Pay) { p.Days = []int{1} },
		"three days":          func(p *api.Pay) { p.Days = []int{1, 2, 3} },
		"days -1":             func(p *api.Pay) { p.Days[1] = -1 },
		"days 11":             func(p *api.Pay) { p.Days[0] = 11 },
		"days greatest":       func(p *api.Pay) { p.Days[0] = math.MaxInt },
		"nine payments":       func(p *api.Pay) { p.Paid = make([]api.PayPaid, 9) },
		"paid who -1":         func(p *api.Pay) { p.Paid[0].Who = -1 },
		"paid who 2":          func(p *api.Pay) { p.Paid[3].Who = 2 },
		"paid run -1":         func(p *api.Pay) { p.Paid[0].Run = -1 },
		"paid run 2":          func(p *api.Pay) { p.Paid[3].Run = 2 },
		"paid run least":      func(p *api.Pay) { p.Paid[3].Run = math.MinInt },
		"pence -1":            func(p *api.Pay) { p.Paid[1].Pence = -1 },
		"pence 10001":         func(p *api.Pay) { p.Paid[1].Pence = 10001 },
		"pence greatest":      func(p *api.Pay) { p.Paid[1].Pence = math.MaxInt },
		"wrong and a clash":   func(p *api.Pay) { p.Calls[4].Struck, p.Paid[3].Pence = false, -1 },
	} {
		p := paidX()
		spoil(&p)
		list[name] = p
	}
	return list
}

// ErrArg comes before all other errors; with it all other results are zero.
func TestNotValid(t *testing.T) {
	for name, p := range spoilt() {
		for _, n := range []int{0, 1, 2, -1, math.MinInt, math.MaxInt} {
			for function, got := range callAll(p, n, n) {
				if got != failed(api.ErrArg) {
					t.Error(name, function, n, got)
				}
			}
		}
	}
}

// What lies just within the limits is valid.
func TestLimits(t *testing.T) {
	for name, widen := range map[string]func(p *api.Pay){
		"one of all":      func(p *api.Pay) { *p = alone(0, exactly(0)) },
		"four people":     func(p *api.Pay) { p.People, p.Days = 4, []int{0, 10, 0, 10} },
		"four runs":       func(p *api.Pay) { p.Runs = append(p.Runs, exactly(0), span(0, 400)) },
		"run 0..400":      func(p *api.Pay) { p.Runs[0] = span(0, 400) },
		"no calls":        func(p *api.Pay) { p.Runs, p.Calls = []api.Span{exactly(0)}, nil },
		"twelve calls":    func(p *api.Pay) { p.Calls = append(slices.Repeat(p.Calls[:1], 7), p.Calls...) },
		"call 0..100":     func(p *api.Pay) { p.Calls[2].Sheep = span(0, 100) },
		"rate 0":          func(p *api.Pay) { p.Rate = 0 },
		"rate 1000":       func(p *api.Pay) { p.Rate = 1000 },
		"bill 0":          func(p *api.Pay) { p.Bill = 0 },
		"bill 10000":      func(p *api.Pay) { p.Bill = 10000 },
		"days 0 and 10":   func(p *api.Pay) { p.Days = []int{0, 10} },
		"eight payments":  func(p *api.Pay) { p.Paid = slices.Repeat([]api.PayPaid{paid(1, 1, 10000)}, 8) },
		"pence 0":         func(p *api.Pay) { p.Paid = []api.PayPaid{paid(0, 0, 0)} },
		"struck and 0..0": func(p *api.Pay) { p.Calls[4].Sheep = exactly(0) },
	} {
		p := payX()
		widen(&p)
		if _, e := pay.Left(p, 0); e != api.OK {
			t.Error(name, e)
		}
		if got := fromInt(pay.Wrong(p)); got != failed(api.ErrNone) {
			t.Error(name, got)
		}
	}
}

// asks tells about what a function is asked.
func asks(function string) (who, run bool) {
	switch function {
	case "Stands", "Sheep":
		return true, true
	case "Out":
		return false, true
	case "Wages", "Mess", "Left":
		return true, false
	}
	return false, false
}

// ErrRange comes behind ErrArg, and before ErrClash and ErrNone.
func TestRange(t *testing.T) {
	for i, p := range []api.Pay{paidX(), payY(paid(0, 0, 1))} {
		for _, n := range []int{-1, 2, 3, 4, 64, math.MinInt, math.MaxInt} {
			for _, numbers := range [][2]int{{n, 0}, {1, n}, {n, n}} {
				for function, got := range callAll(p, numbers[0], numbers[1]) {
					who, run := asks(function)
					inRange := !(who && numbers[0] == n) && !(run && numbers[1] == n)
					if inRange == (got.e == api.ErrRange) || !inRange && got != failed(api.ErrRange) {
						t.Error(i, function, numbers, got)
					}
				}
			}
		}
	}
}

// Numbers that just are such are no error, also where there are as many as can be.
func TestWithinRange(t *testing.T) {
	p := api.Pay{People: 4, Runs: slices.Repeat([]api.Span{span(0, 400)}, 4), Calls: []api.PayCall{call(0, 0, 1, 2), call(3, 3, 1, 2)}, Days: make([]int, 4)}
	for _, n := range []int{0, 3} {
		for function, got := range callAll(p, n, n) {
			if none := function == "Check" || function == "Wrong"; none != (got.e == api.ErrNone) || !none && got.e != api.OK {
				t.Error(function, n, got)
			}
		}
	}
}

// ErrClash comes behind ErrRange, and before ErrNone, with zero results; Stands, Mess and Wrong do not return it. One run that cannot be is enough, also for those who were not in it.
func TestNoTruth(t *testing.T) {
	low, high := payX(), payX()
	low.Runs[1], high.Runs[1] = span(0, 21), span(23, 400)
	for i, p := range []api.Pay{payY(), payY(paid(0, 0, 1)), payY(paid(0, 0, 10000), paid(0, 0, 1)), low, high} {
		for _, at := range [][2]int{{0, 0}, {1, 0}, {0, 1}, {1, 1}} {
			for function, got := range callAll(p, at[0], at[1]) {
				if without := function == "Stands" || function == "Mess" || function == "Wrong"; without == (got == failed(api.ErrClash)) {
					t.Error(i, function, at, got)
				}
			}
		}
		if got := fromInt(pay.Wrong(p)); got != fromInt(2, api.OK) {
			t.Error(i, got)
		}
	}
}

// P1: whatever the arguments are, each function ends, and does not panic.
func TestAnything(t *testing.T) {
	extremes := []int{math.MinInt, math.MinInt + 1, -1, 0, 1, 2, 3, 4, 5, 10, 11, 100, 400, 1000, 10000, math.MaxInt - 1, math.MaxInt}
	c := chance(7)
	pick := func() int { return extremes[c.below(len(extremes))] }
	wild := func() api.Span { return span(pick(), pick()) }
	for range 4000 {
		p := paidX()
		for range 1 + c.below(3) {
			switch c.below(10) {
			case 0:
				p.People = pick()
			case 1:
				p.People = c.below(6)
				p.Days = make([]int, p.People)
			case 2:
				p.Runs = []api.Span{wild(), span(20, 25)}
			case 3:
				p.Calls[c.below(5)].Who = pick()
			case 4:
				p.Calls[c.below(5)].Run = pick()
			case 5:
				p.Calls[c.below(5)].Sheep = wild()
			case 6:
				p.Rate, p.Bill = pick(), pick()
			case 7:
				p.Days = slices.Repeat([]int{pick()}, len(p.Days))
			case 8:
				p.Paid[c.below(4)] = paid(pick(), pick(), pick())
			case 9:
				p.Runs = slices.Repeat([]api.Span{wild()}, c.below(6))
			}
		}
		callAll(p, pick(), pick())
	}
}

// R3 and R4: a nil list is the same as an empty one, no argument is changed, and a call tells nothing to the next one.
func TestArguments(t *testing.T) {
	bare, empty := bill(7, 3, 2), bill(7, 3, 2)
	bare.Calls, empty.Calls = nil, []api.PayCall{}
	bare.Paid, empty.Paid = nil, []api.PayPaid{}
	if got, want := callAll(empty, 1, 0), callAll(bare, 1, 0); !reflect.DeepEqual(got, want) {
		t.Error(got, want)
	}
	for i, make := range []func() api.Pay{paidX, func() api.Pay { return payY() }, func() api.Pay { return bill(5, 1, 3, 2, 3) }, func() api.Pay {
		return oneRun(3, span(9, 12), call(2, 0, 9, 9), call(1, 0, 5, 5), call(2, 0, 3, 6), call(0, 0, 1, 3))
	}} {
		p := make()
		first := callAll(p, 1, 0)
		if !reflect.DeepEqual(p, make()) {
			t.Error(i, "changed", p)
		}
		callAll(bill(9, 1, 2, 3), 2, 0)
		if again := callAll(p, 1, 0); !reflect.DeepEqual(first, again) {
			t.Error(i, first, again)
		}
	}
}

// R4: what lies behind the end of a list is neither read nor written.
func TestBehindLists(t *testing.T) {
	build := func() api.Pay {
		p := paidX()
		p.Runs = append(p.Runs, span(9, 8))
		p.Calls = append(p.Calls, call(0, 0, 1, 1), call(-1, 9, 9, 8))
		p.Days = append(p.Days, 10, -1)
		p.Paid = append(p.Paid, paid(0, 1, 10000), paid(-1, -1, -1))
		return p
	}
	whole := build()
	part := whole
	part.Runs, part.Calls, part.Days, part.Paid = whole.Runs[:2], whole.Calls[:5], whole.Days[:2], whole.Paid[:4]
	for _, at := range [][2]int{{0, 0}, {1, 1}} {
		if got, want := callAll(part, at[0], at[1]), callAll(paidX(), at[0], at[1]); !reflect.DeepEqual(got, want) {
			t.Error(at, got, want)
		}
	}
	if !reflect.DeepEqual(whole, build()) {
		t.Error("changed", whole)
	}
}
