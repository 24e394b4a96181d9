package press_test

import (
	"maps"
	"math"
	"reflect"
	"testing"

	"shearworks/api"
	"shearworks/press"
)

// result is what a function returned; its numbers in the order in which they stand.
type result struct {
	numbers [api.PressBales]int
	many    int // of the numbers
	e       api.Errno
}

func resultOf(e api.Errno, numbers ...int) result {
	r := result{many: len(numbers), e: e}
	copy(r.numbers[:], numbers)
	return r
}

// failed returns what comes with an error: zero values of so many numbers.
func failed(e api.Errno, many int) result { return result{many: many, e: e} }

func fromSpan(s api.Span, e api.Errno) result { return resultOf(e, s.Lo, s.Hi) }

func fromInt(n int, e api.Errno) result { return resultOf(e, n) }

func fromTwo(a, b int, e api.Errno) result { return resultOf(e, a, b) }

func fromList(list []int, e api.Errno) result { return resultOf(e, list...) }

func fromLines(lines [api.PressLines]int, e api.Errno) result { return resultOf(e, lines[:]...) }

// results are how many numbers each function returns; those of a list are none with an error.
func results() map[string]int {
	return map[string]int{"Weight": 2, "Fits": 1, "Most": 2, "Plan": 0, "Wait": 3, "Add": 1, "False": 1}
}

// ofSet calls each function that is asked about fleeces.
func ofSet(p api.Press, fleeces int) map[string]result {
	return map[string]result{
		"Weight": fromSpan(press.Weight(p, fleeces)),
		"Fits":   fromInt(press.Fits(p, fleeces)),
		"Add":    fromInt(press.Add(p, fleeces)),
	}
}

// ofPress calls each other one.
func ofPress(p api.Press) map[string]result {
	return map[string]result{
		"Most":  fromTwo(press.Most(p)),
		"Plan":  fromList(press.Plan(p)),
		"Wait":  fromLines(press.Wait(p)),
		"False": fromInt(press.False(p)),
	}
}

func callAll(p api.Press, fleeces int) map[string]result {
	all := ofSet(p, fleeces)
	maps.Copy(all, ofPress(p))
	return all
}

func takesSet(function string) bool {
	return function == "Weight" || function == "Fits" || function == "Add"
}

// spoilt returns presses of which one thing is not valid, with what it is.
func spoilt() map[string]api.Press {
	list := map[string]api.Press{}
	for name, spoil := range map[string]func(p *api.Press){
		"nothing":              func(p *api.Press) { *p = api.Press{} },
		"eleven fleeces":       func(p *api.Press) { *p = exactly(9, 12, 3, 5, 5, 5, 5, 5, 5, 5, 5, 5, 5, 5) },
		"weighs 0":             func(p *api.Press) { p.Fleeces[0].Weight = span(0, 1) },
		"weighs nothing":       func(p *api.Press) { p.Fleeces[5] = fleece(0, 0, 0) },
		"weighs -1":            func(p *api.Press) { p.Fleeces[5].Weight = span(-1, 1) },
		"weighs 21":            func(p *api.Press) { p.Fleeces[3].Weight = span(20, 21) },
		"weighs turned":        func(p *api.Press) { p.Fleeces[3].Weight = span(7, 6) },
		"weighs by 4":          func(p *api.Press) { p.Fleeces[3].Weight = span(6, 10) },
		"weighs anything":      func(p *api.Press) { p.Fleeces[3].Weight = span(math.MinInt, math.MaxInt) },
		"weighs turned all":    func(p *api.Press) { p.Fleeces[3].Weight = span(math.MaxInt, math.MinInt) },
		"weighs least":         func(p *api.Press) { p.Fleeces[3].Weight = span(math.MinInt, 5) },
		"weighs greatest":      func(p *api.Press) { p.Fleeces[3].Weight = span(5, math.MaxInt) },
		"line -1":              func(p *api.Press) { p.Fleeces[1].Line = -1 },
		"line 3":               func(p *api.Press) { p.Fleeces[5].Line = 3 },
		"line greatest":        func(p *api.Press) { p.Fleeces[5].Line = math.MaxInt },
		"line least":           func(p *api.Press) { p.Fleeces[5].Line = math.MinInt },
		"low 0":                func(p *api.Press) { p.Low = 0 },
		"low -1":               func(p *api.Press) { p.Low = -1 },
		"low least":            func(p *api.Press) { p.Low = math.MinInt },
		"low above top":        func(p *api.Press) { p.Low = 13 },
		"top below low":        func(p *api.Press) { p.Top = 8 },
		"top 201":              func(p *api.Press) { p.Top = 201 },
		"top greatest":         func(p *api.Press) { p.Top = math.MaxInt },
		"top least":            func(p *api.Press) { p.Top = math.MinInt },
		"both 201":             func(p *api.Press) { p.Low, p.Top = 201, 201 },
		"bales -1":             func(p *api.Press) { p.Bales = -1 },
		"bales 6":              func(p *api.Press) { p.Bales = 6 },
		"bales greatest":       func(p *api.Press) { p.Bales = math.MaxInt },
		"bales least":          func(p *api.Press) { p.Bales = math.MinInt },
		"five weighed":         func(p *api.Press) { *p = weighed(*p, single(0), single(1), single(2), single(3), single(4)) },
		"weighed none":         func(p *api.Press) { p.Weighed[0].Fleeces = 0 },
		"weighed -1":           func(p *api.Press) { p.Weighed[0].Fleeces = -1 },
		"weighed the fleece 6": func(p *api.Press) { p.Weighed[0].Fleeces = 64 },
		"weighed 0 and 6":      func(p *api.Press) { p.Weighed[0].Fleeces = 65 },
		"weighed greatest":     func(p *api.Press) { p.Weighed[0].Fleeces = math.MaxInt },
		"weighed least":        func(p *api.Press) { p.Weighed[0].Fleeces = math.MinInt },
		"weighed of nothing":   func(p *api.Press) { p.Fleeces = nil },
		"weighed twice":        func(p *api.Press) { p.Weighed = append(p.Weighed, p.Weighed[0]) },
		"in two":               func(p *api.Press) { p.Weighed = append(p.Weighed, bale(12, 1, 200)) },
		"in the first again":   func(p *api.Press) { p.Weighed = append(p.Weighed, bale(8, 1, 200), bale(1, 1, 200)) },
		"weighed 0 heavy":      func(p *api.Press) { p.Weighed[0].Weight = span(0, 14) },
		"weighed -1 heavy":     func(p *api.Press) { p.Weighed[0].Weight = span(-1, 14) },
		"weighed 201 heavy":    func(p *api.Press) { p.Weighed[0].Weight = span(14, 201) },
		"weighed turned":       func(p *api.Press) { p.Weighed[0].Weight = span(15, 14) },
		"weighed anything":     func(p *api.Press) { p.Weighed[0].Weight = span(math.MinInt, math.MaxInt) },
		"weighed turned all":   func(p *api.Press) { p.Weighed[0].Weight = span(math.MaxInt, math.MinInt) },
		"wrong behind a good":  func(p *api.Press) { p.Weighed = append(p.Weighed, bale(8, 6, 7), bale(16, 5, 4)) },
		"wrong and a clash":    func(p *api.Press) { p.Weighed = append(p.Weighed, bale(8, 20, 20), bale(16, 5, 4)) },
	} {
		p := pressQ()
		spoil(&p)
		list[name] = p
	}
	return list
}

// single is a bale of one fleece, of which nothing is known more.
func single(number int) api.PressBale { return bale(1<<number, 1, 200) }

// ErrArg comes first, and with it all other results are zero.
func TestNotValid(t *testing.T) {
	for name, p := range spoilt() {
		for _, fleeces := range []int{0, 1, -1, 64, math.MinInt, math.MaxInt} {
			for function, got := range callAll(p, fleeces) {
				if got != failed(api.ErrArg, results()[function]) {
					t.Error(name, function, got)
				}
			}
		}
	}
}

// ErrRange comes next, also if there is no truth.
func TestNoSet(t *testing.T) {
	for i, x := range []struct {
		p       api.Press
		fleeces int
	}{
		{pressP(), -1}, {pressP(), 64}, {pressP(), 65}, {pressP(), math.MaxInt}, {pressP(), math.MinInt},
		{pressR(), -1}, {pressR(), 64}, {pressing(9, 12, 3), 1}, {pressing(9, 12, 3), -1},
		{greatest(), 1024}, {exactly(5, 5, 1, 5), 2},
	} {
		for function, got := range callAll(x.p, x.fleeces) {
			if takesSet(function) && got != failed(api.ErrRange, results()[function]) || !takesSet(function) && got.e == api.ErrRange {
				t.Error(i, function, got)
			}
		}
	}
	for i, x := range []struct {
		p       api.Press
		fleeces int
	}{{pressP(), 63}, {pressP(), 0}, {pressing(9, 12, 3), 0}, {greatest(), 1023}, {exactly(5, 5, 1, 5), 1}} {
		for function, got := range callAll(x.p, x.fleeces) {
			if got.e != api.OK && got.e != api.ErrNone {
				t.Error(i, function, got)
			}
		}
	}
}

// What lies just within the limits is valid.
func TestLimits(t *testing.T) {
	for name, widen := range map[string]func(p *api.Press){
		"no fleeces":        func(p *api.Press) { *p = pressing(9, 12, 3) },
		"one fleece":        func(p *api.Press) { *p = exactly(9, 12, 3, 5) },
		"ten fleeces":       func(p *api.Press) { *p = exactly(9, 12, 3, 5, 5, 5, 5, 5, 5, 5, 5, 5, 5) },
		"weighs 1":          func(p *api.Press) { p.Fleeces[5] = fleece(1, 1, 0) },
		"weighs 20":         func(p *api.Press) { p.Fleeces[5] = fleece(20, 20, 0) },
		"weighs by 3":       func(p *api.Press) { p.Fleeces[5] = fleece(17, 20, 0) },
		"line 2":            func(p *api.Press) { p.Fleeces[5].Line = 2 },
		"low 1":             func(p *api.Press) { p.Low = 1 },
		"low as top":        func(p *api.Press) { p.Low = 12 },
		"top 200":           func(p *api.Press) { p.Top = 200 },
		"both 200":          func(p *api.Press) { p.Low, p.Top = 200, 200 },
		"both 1":            func(p *api.Press) { p.Low, p.Top = 1, 1 },
		"bales 0":           func(p *api.Press) { p.Bales = 0 },
		"bales 5":           func(p *api.Press) { p.Bales = 5 },
		"none weighed":      func(p *api.Press) { p.Weighed = []api.PressBale{} },
		"four weighed":      func(p *api.Press) { *p = weighed(*p, single(0), single(1), single(2), single(5)) },
		"weighed all":       func(p *api.Press) { *p = weighed(*p, bale(63, 1, 200)) },
		"weighed 1 heavy":   func(p *api.Press) { p.Fleeces[0] = fleece(1, 2, 0); *p = weighed(*p, bale(1, 1, 1)) },
		"weighed 200 heavy": func(p *api.Press) { *p = weighed(*p, bale(63, 25, 200)) },
		"weighed two lines": func(p *api.Press) { *p = weighed(*p, bale(9, 10, 12)) },
	} {
		p := pressQ()
		widen(&p)
		for function, got := range callAll(p, 0) {
			none := function == "False" || function == "Add" && got.e == api.ErrNone
			if none && got != failed(api.ErrNone, 1) || !none && got.e != api.OK {
				t.Error(name, function, got)
			}
		}
	}
}

// ErrClash comes with zero results, before ErrNone; False alone does not return it.
func TestNoTruth(t *testing.T) {
	for i, p := range []api.Press{
		pressR(),
		weighed(pressP(), bale(7, 14, 14), bale(24, 8, 9), bale(32, 4, 4)),
		weighed(exactly(1, 1, 0, 5), bale(1, 4, 4)),
		weighed(exactly(5, 5, 1, 5), bale(1, 6, 200)),
		weighed(greatest(), bale(1023, 1, 124)),
	} {
		for function, got := range callAll(p, 1<<len(p.Fleeces)-1) {
			if function == "False" {
				if got.e != api.OK || got.numbers[0] == 0 {
					t.Error(i, got)
				}
			} else if got != failed(api.ErrClash, results()[function]) {
				t.Error(i, function, got)
			}
		}
	}
}

// P1: whatever the arguments are, each function ends, and does not panic.
func TestAnything(t *testing.T) {
	extremes := []int{math.MinInt, math.MinInt + 1, -1, 0, 1, 2, 3, 5, 6, 7, 9, 20, 21, 63, 64, 200, 201, math.MaxInt - 1, math.MaxInt}
	r := chance(8)
	pick := func() int { return extremes[r.below(len(extremes))] }
	for range 5000 {
		p := weighed(pressR(), bale(24, 8, 9), bale(3, 9, 9))
		for range r.below(4) {
			switch r.below(7) {
			case 0:
				p.Fleeces[r.below(6)].Weight = span(pick(), pick())
			case 1:
				p.Fleeces[r.below(6)].Line = pick()
			case 2:
				p.Low = pick()
			case 3:
				p.Top = pick()
			case 4:
				p.Bales = pick()
			case 5:
				p.Weighed[r.below(2)].Fleeces = pick()
			case 6:
				p.Weighed[r.below(2)].Weight = span(pick(), pick())
			}
		}
		callAll(p, pick())
	}
	for _, p := range []api.Press{
		pressing(9, 12, 3, make([]api.PressFleece, 100000)...),
		weighed(pressing(9, 12, 3, make([]api.PressFleece, 63)...), bale(1, 1, 1)),
		weighed(pressing(9, 12, 3, make([]api.PressFleece, 64)...), bale(1, 1, 1)),
		weighed(pressP(), make([]api.PressBale, 100000)...),
	} {
		for function, got := range callAll(p, 1) {
			if got != failed(api.ErrArg, results()[function]) {
				t.Error(function, got)
			}
		}
	}
}

// P8.8, R3 and P13: a nil list is the same as an empty one, no argument is changed, and what is asked first makes no difference.
func TestArguments(t *testing.T) {
	nothing := pressing(9, 12, 3)
	empty := weighed(pressing(9, 12, 3, []api.PressFleece{}...), []api.PressBale{}...)
	if got, want := callAll(empty, 0), callAll(nothing, 0); !reflect.DeepEqual(got, want) {
		t.Error(got, want)
	}
	for i, build := range []func() api.Press{pressP, pressQ, pressR, greatest} {
		p := build()
		first := callAll(p, 5)
		if !reflect.DeepEqual(p, build()) {
			t.Error(i, "changed", p)
		}
		if again := callAll(p, 5); !reflect.DeepEqual(first, again) {
			t.Error(i, first, again)
		}
	}
}

// P8.8: what lies behind the end of a list is not touched, and results share no memory.
func TestMemory(t *testing.T) {
	fleeces := []api.PressFleece{fleece(4, 5, 0), fleece(5, 5, 0), fleece(7, 7, 1)}
	bales := []api.PressBale{bale(3, 9, 9), bale(1, 2, 3)}
	callAll(weighed(pressing(9, 12, 3, fleeces[:2]...), bales[:1]...), 1)
	if fleeces[2] != fleece(7, 7, 1) || bales[1] != bale(1, 2, 3) {
		t.Error(fleeces, bales)
	}
	p := pressP()
	one, _ := press.Plan(p)
	one[0], one[1] = 0, 0
	if other := fromList(press.Plan(p)); other != resultOf(api.OK, 24, 37) {
		t.Error(other)
	}
}
