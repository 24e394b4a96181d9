package burr_test

import (
	"math"
	"reflect"
	"testing"

	"shearworks/api"
	"shearworks/burr"
)

// result is what a function returned; its numbers in the order in which they stand.
type result struct {
	numbers [2]int
	e       api.Errno
}

func fromInt(n int, e api.Errno) result { return result{[2]int{n}, e} }

func fromTwo(a, b int, e api.Errno) result { return result{[2]int{a, b}, e} }

func failed(e api.Errno) result { return result{e: e} }

func callAll(b api.Burr) map[string]result {
	return map[string]result{
		"Mobs":  fromTwo(burr.Mobs(b)),
		"Bales": fromTwo(burr.Bales(b)),
		"Clean": fromInt(burr.Clean(b)),
		"Pure":  fromInt(burr.Pure(b)),
		"Count": fromInt(burr.Count(b)),
		"Open":  fromTwo(burr.Open(b)),
		"Next":  fromTwo(burr.Next(b)),
		"Clash": fromInt(burr.Clash(b)),
	}
}

// spoilt returns bales of which one thing is not valid, with what it is.
func spoilt() map[string]api.Burr {
	list := map[string]api.Burr{}
	for name, spoil := range map[string]func(b *api.Burr){
		"nothing":             func(b *api.Burr) { *b = api.Burr{} },
		"no mobs":             func(b *api.Burr) { *b = wool(0, span(0, 0), 0) },
		"six mobs":            func(b *api.Burr) { b.Mobs = 6 },
		"mobs -1":             func(b *api.Burr) { b.Mobs = -1 },
		"mobs least":          func(b *api.Burr) { b.Mobs = math.MinInt },
		"mobs greatest":       func(b *api.Burr) { b.Mobs = math.MaxInt },
		"too few mobs":        func(b *api.Burr) { b.Mobs = 2 }, // for the bale 2
		"burred -1":           func(b *api.Burr) { b.Burred = span(-1, 1) },
		"burred 4":            func(b *api.Burr) { b.Burred = span(1, 4) },
		"burred turned":       func(b *api.Burr) { b.Burred = span(2, 1) },
		"burred all":          func(b *api.Burr) { b.Burred = span(math.MinInt, math.MaxInt) },
		"burred all turned":   func(b *api.Burr) { b.Burred = span(math.MaxInt, math.MinInt) },
		"seven bales":         func(b *api.Burr) { b.Bales = make([]api.BurrBale, 7) },
		"surely, not perhaps": func(b *api.Burr) { b.Bales[0] = bale(4, 3) },
		"surely more":         func(b *api.Burr) { b.Bales[1] = bale(3, 2) },
		"surely of none":      func(b *api.Burr) { b.Bales[2] = bale(1, 0) },
		"surely -1":           func(b *api.Burr) { b.Bales[0] = bale(-1, 7) },
		"surely least":        func(b *api.Burr) { b.Bales[0] = bale(math.MinInt, 7) },
		"perhaps -1":          func(b *api.Burr) { b.Bales[0] = bale(0, -1) },
		"both -1":             func(b *api.Burr) { b.Bales[2] = bale(-1, -1) },
		"perhaps the mob 3":   func(b *api.Burr) { b.Bales[2] = bale(0, 8) },
		"perhaps 0 and 3":     func(b *api.Burr) { b.Bales[0] = bale(1, 9) },
		"both the mob 3":      func(b *api.Burr) { b.Bales[0] = bale(8, 8) },
		"perhaps greatest":    func(b *api.Burr) { b.Bales[0] = bale(0, math.MaxInt) },
		"perhaps least":       func(b *api.Burr) { b.Bales[0] = bale(0, math.MinInt) },
		"top -1":              func(b *api.Burr) { b.Top = -1 },
		"top of the bale 3":   func(b *api.Burr) { b.Top = 8 },
		"top of 0 and 3":      func(b *api.Burr) { b.Top = 9 },
		"top greatest":        func(b *api.Burr) { b.Top = math.MaxInt },
		"top least":           func(b *api.Burr) { b.Top = math.MinInt },
		"top without bales":   func(b *api.Burr) { *b = wool(3, span(1, 1), 1) },
		"seven tests":         func(b *api.Burr) { b.Tests = make([]api.BurrTest, 7) },
		"test of -1":          func(b *api.Burr) { b.Tests[0] = free(-1) },
		"test of 3":           func(b *api.Burr) { b.Tests[0] = burry(3) },
		"test greatest":       func(b *api.Burr) { b.Tests[0] = burry(math.MaxInt) },
		"test least":          func(b *api.Burr) { b.Tests[0] = burry(math.MinInt) },
		"test without bales":  func(b *api.Burr) { *b = tested(wool(3, span(1, 1), 0), free(0)) },
		"wrong behind a good": func(b *api.Burr) { b.Tests = append(b.Tests, burry(0), free(5)) },
		"wrong and a clash":   func(b *api.Burr) { b.Tests = append(b.Tests, burry(2), free(5)) },
	} {
		b := balesK()
		spoil(&b)
		list[name] = b
	}
	return list
}

// ErrArg comes first, and with it all other results are zero.
func TestNotValid(t *testing.T) {
	for name, b := range spoilt() {
		for function, got := range callAll(b) {
			if got != failed(api.ErrArg) {
				t.Error(name, function, got)
			}
		}
	}
}

// What lies just within the limits is valid.
func TestLimits(t *testing.T) {
	for name, widen := range map[string]func(b *api.Burr){
		"one mob":         func(b *api.Burr) { *b = wool(1, span(0, 1), 1, bale(0, 1)) },
		"five mobs":       func(b *api.Burr) { b.Mobs = 5; b.Bales[0] = bale(31, 31) },
		"burred none":     func(b *api.Burr) { b.Burred = span(0, 0) },
		"burred all":      func(b *api.Burr) { b.Burred = span(3, 3); b.Tests = nil },
		"burred any":      func(b *api.Burr) { b.Burred = span(0, 3) },
		"no bales":        func(b *api.Burr) { *b = wool(3, span(1, 1), 0) },
		"six bales":       func(b *api.Burr) { b.Bales = append(b.Bales, b.Bales...) },
		"surely all":      func(b *api.Burr) { b.Bales[0] = bale(7, 7) },
		"surely none":     func(b *api.Burr) { b.Bales[0] = bale(0, 7) },
		"no top":          func(b *api.Burr) { b.Top = 0 },
		"all top":         func(b *api.Burr) { b.Top = 7 },
		"top of six":      func(b *api.Burr) { b.Bales = append(b.Bales, b.Bales...); b.Top = 63 },
		"no tests":        func(b *api.Burr) { b.Tests = []api.BurrTest{} },
		"six tests":       func(b *api.Burr) { b.Tests = []api.BurrTest{free(2), free(2), free(2), free(2), free(2), free(2)} },
		"test of 0":       func(b *api.Burr) { b.Tests[0] = free(0) },
		"tests of all":    func(b *api.Burr) { b.Tests = []api.BurrTest{free(2), burry(1), burry(0)} },
		"tests the same":  func(b *api.Burr) { b.Tests = []api.BurrTest{burry(0), burry(0)} },
		"bales all empty": func(b *api.Burr) { b.Bales = make([]api.BurrBale, 6) },
	} {
		b := balesK()
		widen(&b)
		for function, got := range callAll(b) {
			none := function == "Clash" || function == "Next" && len(b.Bales) == 0
			if none && got != failed(api.ErrNone) || !none && got.e != api.OK {
				t.Error(name, function, got)
			}
		}
	}
}

// ErrClash comes with zero results; Count and Clash alone do not return it.
func TestNoTruth(t *testing.T) {
	for i, b := range []api.Burr{
		balesN(),
		tested(wool(1, span(0, 1), 1, bale(0, 0)), burry(0)),
		tested(wool(1, span(1, 1), 1, bale(1, 1)), free(0)),
		tested(wool(1, span(0, 1), 0, bale(0, 1)), free(0), burry(0)),
		tested(alike(5, span(0, 0), bale(0, 31)), free(0), burry(5)),
		tested(alike(5, span(1, 5), of(31)), burry(0), free(5)),
	} {
		for function, got := range callAll(b) {
			switch function {
			case "Count":
				if got != fromInt(0, api.OK) {
					t.Error(i, got)
				}
			case "Clash":
				if got.e != api.OK || got.numbers[0] == 0 {
					t.Error(i, got)
				}
			default:
				if got != failed(api.ErrClash) {
					t.Error(i, function, got)
				}
			}
		}
	}
}

// P7.6: without bales there is none to be opened next.
func TestNoBales(t *testing.T) {
	for i, b := range []api.Burr{wool(1, span(0, 0), 0), wool(5, span(0, 5), 0), wool(3, span(3, 3), 0)} {
		if got := fromTwo(burr.Next(b)); got != failed(api.ErrNone) {
			t.Error(i, got)
		}
	}
}

// P1: whatever the arguments are, each function ends, and does not panic.
func TestAnything(t *testing.T) {
	extremes := []int{math.MinInt, math.MinInt + 1, -1, 0, 1, 2, 3, 4, 5, 6, 7, 8, 31, 32, 63, 64, math.MaxInt - 1, math.MaxInt}
	r := chance(7)
	pick := func() int { return extremes[r.below(len(extremes))] }
	for range 5000 {
		b := balesN()
		for range 1 + r.below(3) {
			switch r.below(6) {
			case 0:
				b.Mobs = pick()
			case 1:
				b.Burred = span(pick(), pick())
			case 2:
				b.Bales[r.below(3)].Surely = pick()
			case 3:
				b.Bales[r.below(3)].Perhaps = pick()
			case 4:
				b.Top = pick()
			case 5:
				b.Tests[r.below(3)].Bale = pick()
			}
		}
		callAll(b)
	}
	for _, b := range []api.Burr{
		wool(5, span(0, 5), 0, make([]api.BurrBale, 100000)...),
		wool(5, span(0, 5), -1, make([]api.BurrBale, 63)...),
		wool(5, span(0, 5), -1, make([]api.BurrBale, 64)...),
		tested(alike(5, span(0, 5), of(31)), make([]api.BurrTest, 100000)...),
	} {
		for function, got := range callAll(b) {
			if got != failed(api.ErrArg) {
				t.Error(function, got)
			}
		}
	}
}

// R3, R4 and P13: a nil list is the same as an empty one, no argument is changed, and what is asked first makes no difference.
func TestArguments(t *testing.T) {
	nothing := wool(3, span(0, 3), 0)
	empty := tested(wool(3, span(0, 3), 0, []api.BurrBale{}...), []api.BurrTest{}...)
	if got, want := callAll(empty), callAll(nothing); !reflect.DeepEqual(got, want) {
		t.Error(got, want)
	}
	for i, build := range []func() api.Burr{balesB, balesK, balesM, balesN, greatest} {
		b := build()
		first := callAll(b)
		if !reflect.DeepEqual(b, build()) {
			t.Error(i, "changed", b)
		}
		if again := callAll(b); !reflect.DeepEqual(first, again) {
			t.Error(i, first, again)
		}
	}
}

// R4: what lies behind the end of a list is not touched.
func TestBehindLists(t *testing.T) {
	bales := []api.BurrBale{bale(1, 3), bale(0, 3), bale(2, 3)}
	tests := []api.BurrTest{burry(0), free(0), free(1)}
	callAll(tested(wool(2, span(0, 2), 3, bales[:2]...), tests[:1]...))
	if bales[2] != bale(2, 3) || tests[1] != free(0) || tests[2] != free(1) {
		t.Error(bales, tests)
	}
}
