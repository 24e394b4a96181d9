package tally_test

import (
	"math"
	"reflect"
	"testing"

	"shearworks/api"
	"shearworks/tally"
)

// result is what a function returned; its numbers in the order in which they stand.
type result struct {
	numbers [2]int
	e       api.Errno
}

func fromSpan(s api.Span, e api.Errno) result { return result{[2]int{s.Lo, s.Hi}, e} }

func fromInt(n int, e api.Errno) result { return result{[2]int{n}, e} }

func fromTwo(a, b int, e api.Errno) result { return result{[2]int{a, b}, e} }

func failed(e api.Errno) result { return result{e: e} }

// callAll calls each function with the same numbers.
func callAll(t api.Tally, at, other int, call api.TallyCall) map[string]result {
	return map[string]result{
		"Shorn":    fromSpan(tally.Shorn(t, at)),
		"Pen":      fromSpan(tally.Pen(t, at)),
		"Stray":    fromSpan(tally.Stray(t, at)),
		"Together": fromSpan(tally.Together(t, at, other)),
		"Fits":     fromInt(tally.Fits(t, call)),
		"False":    fromTwo(tally.False(t)),
		"Suspects": fromInt(tally.Suspects(t)),
		"Clash":    fromInt(tally.Clash(t)),
	}
}

// setOnly tells whether a function is one of those that answer without a truth too.
func setOnly(function string) bool {
	return function == "False" || function == "Suspects" || function == "Clash"
}

// spoilt returns tallies of which one thing is not valid, with what it is.
func spoilt() map[string]api.Tally {
	list := map[string]api.Tally{}
	for name, spoil := range map[string]func(t *api.Tally){
		"nothing":             func(t *api.Tally) { *t = api.Tally{} },
		"no shearers":         func(t *api.Tally) { *t = api.Tally{Most: 5} },
		"six shearers":        func(t *api.Tally) { *t = row(6, 5, span(0, 1)) },
		"shearers -1":         func(t *api.Tally) { t.Shearers = -1 },
		"shearers least":      func(t *api.Tally) { t.Shearers = math.MinInt },
		"shearers greatest":   func(t *api.Tally) { t.Shearers = math.MaxInt },
		"too few shearers":    func(t *api.Tally) { t.Shearers = 2 },
		"too many shearers":   func(t *api.Tally) { t.Shearers = 4 },
		"most -1":             func(t *api.Tally) { t.Most = -1 },
		"most 61":             func(t *api.Tally) { t.Most = 61 },
		"most least":          func(t *api.Tally) { t.Most = math.MinInt },
		"most greatest":       func(t *api.Tally) { t.Most = math.MaxInt },
		"no strays":           func(t *api.Tally) { t.Strays = nil },
		"strays of the last":  func(t *api.Tally) { t.Strays = append(t.Strays, span(0, 0)) },
		"one shearer strays":  func(t *api.Tally) { *t = alone(5); t.Strays = []api.Span{{}} },
		"strays -4":           func(t *api.Tally) { t.Strays[1] = span(-4, 0) },
		"strays 4":            func(t *api.Tally) { t.Strays[0] = span(0, 4) },
		"strays turned":       func(t *api.Tally) { t.Strays[0] = span(1, 0) },
		"strays all":          func(t *api.Tally) { t.Strays[1] = span(math.MinInt, math.MaxInt) },
		"strays all turned":   func(t *api.Tally) { t.Strays[1] = span(math.MaxInt, math.MinInt) },
		"nine calls":          func(t *api.Tally) { t.Calls = make([]api.TallyCall, 9) },
		"kind 3":              func(t *api.Tally) { t.Calls[3].Kind = 3 },
		"kind -1":             func(t *api.Tally) { t.Calls[0].Kind = -1 },
		"kind least":          func(t *api.Tally) { t.Calls[0].Kind = math.MinInt },
		"kind greatest":       func(t *api.Tally) { t.Calls[1].Kind = math.MaxInt },
		"porthole -1":         func(t *api.Tally) { t.Calls[0].At = -1 },
		"porthole 3":          func(t *api.Tally) { t.Calls[2].At = 3 },
		"pen -1":              func(t *api.Tally) { t.Calls[1].At = -1 },
		"pen 3":               func(t *api.Tally) { t.Calls[1].At = 3 },
		"pen greatest":        func(t *api.Tally) { t.Calls[1].At = math.MaxInt },
		"porthole sheep -1":   func(t *api.Tally) { t.Calls[0].Sheep = span(-1, 1) },
		"porthole sheep 301":  func(t *api.Tally) { t.Calls[2].Sheep = span(1, 301) },
		"pen sheep -1":        func(t *api.Tally) { t.Calls[1].Sheep = span(-1, 1) },
		"pen sheep 301":       func(t *api.Tally) { t.Calls[1].Sheep = span(1, 301) },
		"fleeces -1":          func(t *api.Tally) { t.Calls[3].Sheep = span(-1, 1) },
		"fleeces 301":         func(t *api.Tally) { t.Calls[3].Sheep = span(1, 301) },
		"porthole turned":     func(t *api.Tally) { t.Calls[0].Sheep = span(2, 1) },
		"pen turned":          func(t *api.Tally) { t.Calls[1].Sheep = span(2, 1) },
		"fleeces turned":      func(t *api.Tally) { t.Calls[3].Sheep = span(2, 1) },
		"sheep all":           func(t *api.Tally) { t.Calls[3].Sheep = span(math.MinInt, math.MaxInt) },
		"sheep all turned":    func(t *api.Tally) { t.Calls[3].Sheep = span(math.MaxInt, math.MinInt) },
		"wrong behind a good": func(t *api.Tally) { t.Calls = append(t.Calls, port(3, 1, 1)) },
	} {
		t := tallyN()
		spoil(&t)
		list[name] = t
	}
	return list
}

// ErrArg comes before all other errors; with it all other results are zero.
func TestNotValid(t *testing.T) {
	for name, x := range spoilt() {
		for _, at := range [][2]int{{0, 1}, {1, 0}, {-1, -1}, {5, 5}, {math.MinInt, math.MaxInt}, {math.MaxInt, math.MinInt}} {
			for _, call := range []api.TallyCall{port(0, 1, 1), fleeces(1, 0), port(at[0], 1, 1), {Kind: 3}} {
				for function, got := range callAll(x, at[0], at[1], call) {
					if got != failed(api.ErrArg) {
						t.Error(name, function, at, call, got)
					}
				}
			}
		}
	}
}

// What lies just within the limits is valid; so is a call that none can make right.
func TestLimits(t *testing.T) {
	for name, x := range map[string]api.Tally{
		"one shearer":      alone(0),
		"no strays":        {Shearers: 1, Most: 60, Strays: []api.Span{}},
		"five shearers":    row(5, 60, span(-3, 3)),
		"no calls":         two(span(0, 0)),
		"eight calls":      tallyT(port(0, 0, 300), pen(2, 0, 300), fleeces(0, 300), fleeces(15, 15)),
		"all sheep":        row(5, 60, span(0, 0), fleeces(300, 300)),
		"no sheep":         row(5, 60, span(0, 0), fleeces(0, 0)),
		"strays of 3 only": row(5, 60, span(3, 3)),
	} {
		if _, e := tally.Shorn(x, 0); e != api.OK {
			t.Error(name, e)
		}
		if _, e := tally.Clash(x); e != api.ErrNone {
			t.Error(name, e)
		}
	}
	for name, x := range map[string]api.Tally{"porthole": alone(60, port(0, 300, 300)), "pen": alone(60, pen(0, 300, 300)), "fleeces": alone(60, fleeces(300, 300))} {
		if got := wrongsOf(x); got != (wrongs{1, 1, 1, api.OK, 1, api.OK}) {
			t.Error(name, got)
		}
	}
}

// ErrRange comes behind ErrArg, and before ErrClash.
func TestRange(t *testing.T) {
	for i, x := range []api.Tally{tallyT(), tallyN()} {
		for _, n := range []int{-1, 3, 4, 5, math.MinInt, math.MaxInt} {
			for function, got := range callAll(x, n, n, api.TallyCall{At: n}) {
				if !setOnly(function) && got != failed(api.ErrRange) {
					t.Error(i, function, n, got)
				}
			}
			for _, at := range [][2]int{{0, n}, {n, 2}, {n, -n}} {
				if got := fromSpan(tally.Together(x, at[0], at[1])); got != failed(api.ErrRange) {
					t.Error(i, at, got)
				}
			}
		}
		for _, at := range [][2]int{{1, 0}, {2, 0}, {2, 1}} {
			if got := fromSpan(tally.Together(x, at[0], at[1])); got != failed(api.ErrRange) {
				t.Error(i, at, got)
			}
		}
		if got := fromSpan(tally.Stray(x, 2)); got != failed(api.ErrRange) {
			t.Error(i, got)
		}
	}
	if got := fromSpan(tally.Stray(alone(5), 0)); got != failed(api.ErrRange) {
		t.Error(got)
	}
}

// A call that is not valid is none that can fit.
func TestCallRange(t *testing.T) {
	for i, x := range []api.Tally{tallyT(), tallyN()} {
		for _, call := range []api.TallyCall{
			port(-1, 1, 1), port(3, 1, 1), pen(-1, 1, 1), pen(3, 1, 1), pen(math.MaxInt, 1, 1),
			port(0, -1, 1), pen(0, -1, 1), fleeces(-1, 1), port(0, 1, 301), pen(0, 1, 301), fleeces(1, 301),
			port(0, 2, 1), pen(0, 2, 1), fleeces(2, 1), fleeces(math.MinInt, math.MaxInt), fleeces(math.MaxInt, math.MinInt),
			{Kind: -1}, {Kind: 3}, {Kind: math.MinInt}, {Kind: math.MaxInt},
		} {
			if got := fromInt(tally.Fits(x, call)); got != failed(api.ErrRange) {
				t.Error(i, call, got)
			}
		}
	}
}

// Numbers that just are such are no error.
func TestWithinRange(t *testing.T) {
	for _, at := range [][2]int{{0, 0}, {0, 2}, {1, 2}} {
		for function, got := range callAll(tallyT(), at[0], at[1], port(at[1], 0, 300)) {
			if function != "Clash" && got.e != api.OK {
				t.Error(function, at, got)
			}
		}
	}
	for function, got := range callAll(tallyT(), 2, 2, pen(2, 300, 300)) {
		if function != "Clash" && function != "Stray" && got.e != api.OK {
			t.Error(function, got)
		}
	}
}

// ErrClash comes last, with zero results; Clash does not return it, and the others of calls only if none can be left out.
func TestNoTruth(t *testing.T) {
	for i, x := range []api.Tally{tallyN(), two(span(0, 0), fleeces(41, 50)), two(span(0, 0), port(0, 1, 1), pen(0, 2, 2))} {
		for function, got := range callAll(x, 0, 1, port(0, 0, 300)) {
			if setOnly(function) != (got.e == api.OK) || !setOnly(function) && got != failed(api.ErrClash) {
				t.Error(i, function, got)
			}
		}
	}
	for function, got := range callAll(row(3, 0, span(1, 3), port(0, 0, 0)), 0, 1, port(0, 0, 300)) {
		want := failed(api.ErrClash)
		if function == "Clash" {
			want = fromInt(0, api.OK)
		}
		if got != want {
			t.Error(function, got, "want", want)
		}
	}
}

// R8: where fleeces were counted is not looked at.
func TestFleecesAnywhere(t *testing.T) {
	want := callAll(tallyT(), 0, 1, fleeces(16, 17))
	for _, at := range []int{-9, 2, 5, math.MinInt, math.MaxInt} {
		x, call := tallyT(), fleeces(16, 17)
		x.Calls[3].At, call.At = at, at
		if got := callAll(x, 0, 1, call); !reflect.DeepEqual(got, want) {
			t.Error(at, got, want)
		}
	}
}

// P1: whatever the arguments are, each function ends, and does not panic.
func TestAnything(t *testing.T) {
	extremes := []int{math.MinInt, math.MinInt + 1, -4, -3, -1, 0, 1, 2, 3, 4, 5, 6, 60, 61, 300, 301, math.MaxInt - 1, math.MaxInt}
	r := chance(7)
	pick := func() int { return extremes[r.below(len(extremes))] }
	wild := func() api.Span { return span(pick(), pick()) }
	for range 5000 {
		x := tallyN()
		for range 1 + r.below(3) {
			switch r.below(7) {
			case 0:
				x.Shearers = pick()
			case 1:
				x.Most = pick()
			case 2:
				x.Strays[r.below(len(x.Strays))] = wild()
			case 3:
				x.Strays = make([]api.Span, 1+r.below(6))
				x.Shearers = len(x.Strays) + 1
			case 4:
				x.Calls[r.below(6)].Kind = pick()
			case 5:
				x.Calls[r.below(6)].At = pick()
			case 6:
				x.Calls[r.below(6)].Sheep = wild()
			}
		}
		callAll(x, pick(), pick(), api.TallyCall{Kind: pick(), At: pick(), Sheep: wild()})
	}
}

// R3, R4: a nil list is the same as an empty one, no argument is changed, and a call tells nothing to the next one.
func TestArguments(t *testing.T) {
	bare, empty := alone(20), alone(20)
	empty.Strays, empty.Calls = []api.Span{}, []api.TallyCall{}
	if got, want := callAll(empty, 0, 0, port(0, 1, 5)), callAll(bare, 0, 0, port(0, 1, 5)); !reflect.DeepEqual(got, want) {
		t.Error(got, want)
	}
	for i, make := range []func() api.Tally{
		func() api.Tally { return tallyT() }, tallyK, tallyN,
		func() api.Tally { return row(5, 60, span(-3, 3), port(3, 9, 12), fleeces(0, 150)) },
	} {
		x := make()
		before := callAll(x, 1, 2, pen(1, 5, 6))
		if !reflect.DeepEqual(x, make()) {
			t.Error(i, "changed", x)
		}
		callAll(row(5, 30, span(-1, 2), fleeces(100, 120)), 1, 2, pen(1, 5, 6))
		if again := callAll(x, 1, 2, pen(1, 5, 6)); !reflect.DeepEqual(before, again) {
			t.Error(i, before, again)
		}
	}
}

// R4: what lies behind the end of a list is neither read nor written.
func TestBehindLists(t *testing.T) {
	list := func() []api.TallyCall {
		return []api.TallyCall{port(0, 9, 9), port(0, 6, 6), pen(0, 5, 5), port(2, 4, 5), fleeces(15, 16), pen(-1, 5, 4), port(9, 9, 9)}
	}
	strays := []api.Span{span(0, 1), span(-1, 0), span(9, -9)}
	calls := list()
	x := tallyT()
	x.Strays, x.Calls = strays[:2], calls[1:5]
	if got, want := callAll(x, 1, 2, pen(2, 3, 3)), callAll(tallyT(), 1, 2, pen(2, 3, 3)); !reflect.DeepEqual(got, want) {
		t.Error(got, want)
	}
	if !reflect.DeepEqual(calls, list()) || strays[2] != span(9, -9) {
		t.Error("changed", calls, strays)
	}
}
