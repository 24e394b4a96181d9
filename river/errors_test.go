package river_test

import (
	"math"
	"reflect"
	"slices"
	"testing"

	"shearworks/api"
	"shearworks/river"
)

// result is what a function returned; its numbers in the order in which they stand.
type result struct {
	a, b int
	e    api.Errno
}

func fromSpan(s api.Span, e api.Errno) result { return result{s.Lo, s.Hi, e} }

func fromInt(n int, e api.Errno) result { return result{n, 0, e} }

func fromTwo(a, b int, e api.Errno) result { return result{a, b, e} }

func failed(e api.Errno) result { return result{e: e} }

// callAll calls each function with the same numbers.
func callAll(r api.River, day, fresh, draws int) map[string]result {
	return map[string]result{
		"Depth": fromSpan(river.Depth(r, day)),
		"Fall":  fromSpan(river.Fall(r)),
		"Fresh": fromInt(river.Fresh(r, fresh)),
		"Bears": fromInt(river.Bears(r, draws, day)),
		"Days":  fromTwo(river.Days(r, draws)),
		"Until": fromInt(river.Until(r, draws)),
		"Last":  fromInt(river.Last(r, draws)),
		"Clash": fromInt(river.Clash(r)),
	}
}

// spoilt returns rivers of which one thing is not valid, with what it is.
func spoilt() map[string]api.River {
	list := map[string]api.River{}
	for name, spoil := range map[string]func(r *api.River){
		"nothing":             func(r *api.River) { *r = api.River{} },
		"depth -1":            func(r *api.River) { r.Depth = span(-1, 0) },
		"depth 61":            func(r *api.River) { r.Depth = span(60, 61) },
		"depth turned":        func(r *api.River) { r.Depth = span(11, 10) },
		"depth by 5":          func(r *api.River) { r.Depth = span(10, 15) },
		"depth all":           func(r *api.River) { r.Depth = span(math.MinInt, math.MaxInt) },
		"depth all turned":    func(r *api.River) { r.Depth = span(math.MaxInt, math.MinInt) },
		"depth greatest":      func(r *api.River) { r.Depth = exactly(math.MaxInt) },
		"depth least":         func(r *api.River) { r.Depth = exactly(math.MinInt) },
		"fall -1":             func(r *api.River) { r.Fall = span(-1, 0) },
		"fall 6":              func(r *api.River) { r.Fall = span(5, 6) },
		"fall turned":         func(r *api.River) { r.Fall = span(2, 1) },
		"fall by 3":           func(r *api.River) { r.Fall = span(0, 3) },
		"fall all":            func(r *api.River) { r.Fall = span(math.MinInt, math.MaxInt) },
		"fall greatest":       func(r *api.River) { r.Fall = exactly(math.MaxInt) },
		"days 0":              func(r *api.River) { r.Days, r.Freshes, r.Looks = 0, nil, nil },
		"days -1":             func(r *api.River) { r.Days, r.Freshes, r.Looks = -1, nil, nil },
		"days 11":             func(r *api.River) { r.Days = 11 },
		"days least":          func(r *api.River) { r.Days = math.MinInt },
		"days greatest":       func(r *api.River) { r.Days = math.MaxInt },
		"four freshes":        func(r *api.River) { r.Freshes = slices.Repeat(r.Freshes, 4) },
		"fresh of nothing":    func(r *api.River) { r.Freshes[0] = api.RiverFresh{} },
		"fresh on 0":          func(r *api.River) { r.Freshes[0].Days = span(0, 1) },
		"fresh on -1":         func(r *api.River) { r.Freshes[0].Days = span(-1, 2) },
		"fresh on 6":          func(r *api.River) { r.Freshes[0].Days = span(5, 6) },
		"fresh turned":        func(r *api.River) { r.Freshes[0].Days = span(3, 2) },
		"fresh by 4":          func(r *api.River) { r.Freshes[0].Days = span(1, 5) },
		"fresh on all":        func(r *api.River) { r.Freshes[0].Days = span(math.MinInt, math.MaxInt) },
		"fresh on the last":   func(r *api.River) { r.Freshes[0].Days = exactly(math.MaxInt) },
		"rise 0":              func(r *api.River) { r.Freshes[0].Rise = span(0, 1) },
		"rise -1":             func(r *api.River) { r.Freshes[0].Rise = span(-1, 1) },
		"rise 21":             func(r *api.River) { r.Freshes[0].Rise = span(20, 21) },
		"rise turned":         func(r *api.River) { r.Freshes[0].Rise = span(5, 4) },
		"rise by 4":           func(r *api.River) { r.Freshes[0].Rise = span(1, 5) },
		"rise all":            func(r *api.River) { r.Freshes[0].Rise = span(math.MinInt, math.MaxInt) },
		"rise greatest":       func(r *api.River) { r.Freshes[0].Rise = exactly(math.MaxInt) },
		"late fresh":          func(r *api.River) { r.Freshes = append(r.Freshes, fresh(4, 5, 1, 1), fresh(6, 6, 1, 1)) },
		"six looks":           func(r *api.River) { r.Looks = slices.Repeat(r.Looks, 6) },
		"look on -1":          func(r *api.River) { r.Looks[0].Day = -1 },
		"look on 6":           func(r *api.River) { r.Looks[0].Day = 6 },
		"look on the last":    func(r *api.River) { r.Looks[0].Day = math.MaxInt },
		"look on the first":   func(r *api.River) { r.Looks[0].Day = math.MinInt },
		"look -1":             func(r *api.River) { r.Looks[0].Depth = span(-1, 9) },
		"look 201":            func(r *api.River) { r.Looks[0].Depth = span(6, 201) },
		"look turned":         func(r *api.River) { r.Looks[0].Depth = span(9, 8) },
		"look all":            func(r *api.River) { r.Looks[0].Depth = span(math.MinInt, math.MaxInt) },
		"look all turned":     func(r *api.River) { r.Looks[0].Depth = span(math.MaxInt, math.MinInt) },
		"wrong behind a good": func(r *api.River) { r.Looks = append(r.Looks, look(5, 0, 99), look(6, 0, 99)) },
		"wrong and a clash":   func(r *api.River) { r.Looks = append(r.Looks, look(0, 0, 0), look(6, 0, 99)) },
	} {
		r := riverK()
		spoil(&r)
		list[name] = r
	}
	return list
}

// ErrArg comes before all other errors; with it all other results are zero.
func TestNotValid(t *testing.T) {
	for name, r := range spoilt() {
		for _, n := range []int{0, 1, -1, 6, 11, 201, math.MinInt, math.MaxInt} {
			for function, got := range callAll(r, n, n, n) {
				if got != failed(api.ErrArg) {
					t.Error(name, function, n, got)
				}
			}
		}
	}
}

// What lies just within the limits is valid.
func TestLimits(t *testing.T) {
	for name, widen := range map[string]func(r *api.River){
		"depth 0..4":    func(r *api.River) { r.Depth = span(0, 4) },
		"depth 56..60":  func(r *api.River) { r.Depth = span(56, 60) },
		"fall 0..2":     func(r *api.River) { r.Fall = span(0, 2) },
		"fall 3..5":     func(r *api.River) { r.Fall = span(3, 5) },
		"one day":       func(r *api.River) { r.Days, r.Freshes = 1, nil },
		"ten days":      func(r *api.River) { r.Days = 10 },
		"no freshes":    func(r *api.River) { r.Freshes = nil },
		"three freshes": func(r *api.River) { r.Freshes = slices.Repeat(r.Freshes, 3) },
		"fresh 1..4":    func(r *api.River) { r.Freshes[0].Days = span(1, 4) },
		"fresh 2..5":    func(r *api.River) { r.Freshes[0].Days = span(2, 5) },
		"rise 1..4":     func(r *api.River) { r.Freshes[0].Rise = span(1, 4) },
		"rise 17..20":   func(r *api.River) { r.Freshes[0].Rise = span(17, 20) },
		"five looks": func(r *api.River) {
			r.Looks = []api.RiverLook{look(0, 0, 200), look(5, 0, 200), look(1, 0, 200), look(5, 0, 200), look(2, 0, 200)}
		},
	} {
		r := riverR()
		widen(&r)
		if _, e := river.Fall(r); e != api.OK {
			t.Error(name, e)
		}
		if _, e := river.Clash(r); e != api.ErrNone {
			t.Error(name, e)
		}
	}
}

// ErrRange comes behind ErrArg, and before ErrClash and ErrNone.
func TestRange(t *testing.T) {
	for i, r := range []api.River{riverR(), riverN()} {
		for _, n := range []int{-1, 6, 7, 10, 11, 12, 64, math.MinInt, math.MaxInt} {
			for _, function := range []string{"Depth", "Bears"} {
				if got := callAll(r, n, 0, 15)[function]; got != failed(api.ErrRange) {
					t.Error(i, function, n, got)
				}
			}
		}
		for _, n := range []int{-1, 1, 2, 3, 64, math.MinInt, math.MaxInt} {
			if got := callAll(r, 0, n, 15)["Fresh"]; got != failed(api.ErrRange) {
				t.Error(i, n, got)
			}
		}
		for _, n := range []int{-1, 201, math.MinInt, math.MaxInt} {
			for _, function := range []string{"Bears", "Days", "Until", "Last"} {
				if got := callAll(r, 0, 0, n)[function]; got != failed(api.ErrRange) {
					t.Error(i, function, n, got)
				}
			}
		}
	}
	for _, n := range []int{-1, 0, 1} {
		if got := fromInt(river.Fresh(plain(span(1, 5), span(0, 2), 10), n)); got != failed(api.ErrRange) {
			t.Error(n, got)
		}
	}
}

// Numbers that just are such are no error.
func TestWithinRange(t *testing.T) {
	r := riverR()
	r.Freshes = slices.Repeat(r.Freshes, 3)
	for _, numbers := range [][3]int{{0, 0, 0}, {5, 2, 10}} {
		for function, got := range callAll(r, numbers[0], numbers[1], numbers[2]) {
			if function != "Clash" && got.e != api.OK {
				t.Error(function, numbers, got)
			}
		}
	}
	for _, function := range []string{"Until", "Last"} {
		if got := callAll(r, 5, 2, api.RiverMost)[function]; got != failed(api.ErrNone) {
			t.Error(function, got)
		}
	}
	if got := fromInt(river.Bears(r, api.RiverMost, 5)); got != fromInt(api.RiverNever, api.OK) {
		t.Error(got)
	}
}

// ErrClash comes behind ErrRange, and before ErrNone, with zero results; Clash alone does not return it.
func TestNoTruth(t *testing.T) {
	for i, r := range []api.River{riverN(), riverR(look(0, 12, 20)), riverR(look(0, 0, 9)), riverR(look(5, 12, 200)), riverR(look(5, 0, 3)), riverR(look(1, 8, 8), look(1, 10, 10))} {
		for _, draws := range []int{0, 8, api.RiverMost} {
			for function, got := range callAll(r, 0, 0, draws) {
				if function == "Clash" {
					if got.e != api.OK || got.a == 0 {
						t.Error(i, got)
					}
					continue
				}
				if got != failed(api.ErrClash) {
					t.Error(i, function, draws, got)
				}
			}
		}
	}
}

// P1: whatever the arguments are, each function ends, and does not panic.
func TestAnything(t *testing.T) {
	extremes := []int{math.MinInt, math.MinInt + 1, -1, 0, 1, 2, 3, 4, 5, 10, 11, 20, 60, 63, 200, math.MaxInt - 1, math.MaxInt}
	c := chance(7)
	pick := func() int { return extremes[c.below(len(extremes))] }
	wild := func() api.Span { return span(pick(), pick()) }
	for range 4000 {
		r := riverN()
		for range 1 + c.below(3) {
			switch c.below(7) {
			case 0:
				r.Depth = wild()
			case 1:
				r.Fall = wild()
			case 2:
				r.Days = pick()
			case 3:
				r.Freshes[0].Days = wild()
			case 4:
				r.Freshes[0].Rise = wild()
			case 5:
				r.Looks[c.below(3)].Day = pick()
			case 6:
				r.Looks[c.below(3)].Depth = wild()
			}
		}
		callAll(r, pick(), pick(), pick())
	}
}

// R3 and R4: a nil list is the same as an empty one, no argument is changed, and a call tells nothing to the next one.
func TestArguments(t *testing.T) {
	bare, empty := plain(span(10, 11), span(1, 2), 5), plain(span(10, 11), span(1, 2), 5)
	bare.Looks, empty.Looks = nil, []api.RiverLook{}
	empty.Freshes = []api.RiverFresh{}
	if got, want := callAll(empty, 3, 0, 8), callAll(bare, 3, 0, 8); !reflect.DeepEqual(got, want) {
		t.Error(got, want)
	}
	for i, make := range []func() api.River{riverK, riverN, three, full, func() api.River {
		return riverR(look(5, 0, 3), look(0, 10, 10), look(0, 11, 11), look(2, 6, 9), look(1, 8, 8))
	}} {
		r := make()
		first := callAll(r, 3, 0, 8)
		if !reflect.DeepEqual(r, make()) {
			t.Error(i, "changed", r)
		}
		callAll(shallow(look(3, 7, 8)), 3, 0, 8)
		if again := callAll(r, 3, 0, 8); !reflect.DeepEqual(first, again) {
			t.Error(i, first, again)
		}
	}
}

// R4: what lies behind the end of a list is neither read nor written.
func TestBehindLists(t *testing.T) {
	freshes := []api.RiverFresh{fresh(2, 3, 4, 5), fresh(9, 1, -1, -2)}
	looks := []api.RiverLook{look(0, 10, 10), look(0, 11, 11), look(2, 6, 9), look(-1, 5, 4)}
	r := riverR(looks[:3]...)
	r.Freshes, r.Looks = freshes[:1], looks[:3]
	if got := fromInt(river.Clash(r)); got != fromInt(3, api.OK) {
		t.Error(got)
	}
	r.Looks = looks[2:3]
	if got, want := callAll(r, 2, 0, 8), callAll(riverK(), 2, 0, 8); !reflect.DeepEqual(got, want) {
		t.Error(got, want)
	}
	if !reflect.DeepEqual(freshes, []api.RiverFresh{fresh(2, 3, 4, 5), fresh(9, 1, -1, -2)}) ||
		!reflect.DeepEqual(looks, []api.RiverLook{look(0, 10, 10), look(0, 11, 11), look(2, 6, 9), look(-1, 5, 4)}) {
		t.Error("changed", freshes, looks)
	}
}
