package stand_test

import (
	"math"
	"reflect"
	"testing"

	"shearworks/api"
	"shearworks/stand"
)

// result is what a function returned; its numbers in the order in which they stand.
type result struct {
	lo, hi int
	e      api.Errno
}

func fromSpan(s api.Span, e api.Errno) result { return result{s.Lo, s.Hi, e} }

func fromInt(n int, e api.Errno) result { return result{n, 0, e} }

func failed(e api.Errno) result { return result{e: e} }

// callAll calls each function with the same numbers.
func callAll(s api.Stand, sheep, minute, kind, run int) map[string]result {
	return map[string]result{
		"Done":  fromSpan(stand.Done(s, sheep)),
		"Count": fromSpan(stand.Count(s, minute)),
		"Takes": fromSpan(stand.Takes(s, kind)),
		"Begun": fromSpan(stand.Begun(s, run)),
		"Over":  fromSpan(stand.Over(s, run)),
		"Late":  fromInt(stand.Late(s, run)),
		"Clash": fromInt(stand.Clash(s)),
	}
}

// spoilt returns stands of which one thing is not valid, with what it is.
func spoilt() map[string]api.Stand {
	list := map[string]api.Stand{}
	for name, spoil := range map[string]func(s *api.Stand){
		"nothing":             func(s *api.Stand) { *s = api.Stand{} },
		"no minutes":          func(s *api.Stand) { s.Minutes[1] = api.Span{} },
		"minutes 0":           func(s *api.Stand) { s.Minutes[0] = span(0, 4) },
		"minutes 41":          func(s *api.Stand) { s.Minutes[2] = span(37, 41) },
		"minutes too wide":    func(s *api.Stand) { s.Minutes[2] = span(5, 10) },
		"minutes turned":      func(s *api.Stand) { s.Minutes[1] = span(6, 5) },
		"minutes all":         func(s *api.Stand) { s.Minutes[1] = span(math.MinInt, math.MaxInt) },
		"minutes all turned":  func(s *api.Stand) { s.Minutes[0] = span(math.MaxInt, math.MinInt) },
		"minutes greatest":    func(s *api.Stand) { s.Minutes[2] = span(math.MaxInt, math.MaxInt) },
		"no runs":             func(s *api.Stand) { s.Runs = nil },
		"empty runs":          func(s *api.Stand) { s.Runs = []api.StandRun{} },
		"five runs":           func(s *api.Stand) { s.Runs = []api.StandRun{run(0, 1), run(1, 2), run(2, 3), run(3, 4), run(4, 5)} },
		"start -1":            func(s *api.Stand) { s.Runs[0].Start = -1 },
		"start least":         func(s *api.Stand) { s.Runs[0].Start = math.MinInt },
		"start greatest":      func(s *api.Stand) { s.Runs[1].Start = math.MaxInt },
		"start before bell":   func(s *api.Stand) { s.Runs[1].Start = 11 },
		"bell at start":       func(s *api.Stand) { s.Runs[1].Bell = 15 },
		"bell before start":   func(s *api.Stand) { s.Runs[1].Bell = 14 },
		"bell 601":            func(s *api.Stand) { s.Runs[1].Bell = 601 },
		"bell greatest":       func(s *api.Stand) { s.Runs[1].Bell = math.MaxInt },
		"bell least":          func(s *api.Stand) { s.Runs[0].Bell = math.MinInt },
		"runs turned":         func(s *api.Stand) { s.Runs[0], s.Runs[1] = s.Runs[1], s.Runs[0] },
		"seventeen sheep":     func(s *api.Stand) { s.Sheep = make([]int, 17) },
		"kind 3":              func(s *api.Stand) { s.Sheep[5] = 3 },
		"kind -1":             func(s *api.Stand) { s.Sheep[0] = -1 },
		"kind least":          func(s *api.Stand) { s.Sheep[1] = math.MinInt },
		"kind greatest":       func(s *api.Stand) { s.Sheep[1] = math.MaxInt },
		"five looks":          func(s *api.Stand) { s.Looks = make([]api.StandLook, 5) },
		"look at -1":          func(s *api.Stand) { s.Looks[0].Minute = -1 },
		"look at 601":         func(s *api.Stand) { s.Looks[0].Minute = 601 },
		"look at the last":    func(s *api.Stand) { s.Looks[0].Minute = math.MaxInt },
		"look turned":         func(s *api.Stand) { s.Looks[0].Done = span(2, 1) },
		"look -1":             func(s *api.Stand) { s.Looks[0].Done = span(-1, 1) },
		"look 17":             func(s *api.Stand) { s.Looks[0].Done = span(1, 17) },
		"look all":            func(s *api.Stand) { s.Looks[0].Done = span(math.MinInt, math.MaxInt) },
		"wrong behind a good": func(s *api.Stand) { s.Looks = append(s.Looks, counted(601, 0, 16)) },
	} {
		s := standX()
		spoil(&s)
		list[name] = s
	}
	return list
}

// ErrArg comes before all other errors; with it all other results are zero.
func TestNotValid(t *testing.T) {
	for name, s := range spoilt() {
		for _, numbers := range [][4]int{{0, 5, 1, 1}, {-1, -1, -1, -1}, {16, 1000, 3, 0}, {math.MinInt, math.MaxInt, math.MaxInt, math.MinInt}} {
			for function, got := range callAll(s, numbers[0], numbers[1], numbers[2], numbers[3]) {
				if got != failed(api.ErrArg) {
					t.Error(name, function, numbers, got)
				}
			}
		}
	}
}

// What lies just within the limits is valid.
func TestLimits(t *testing.T) {
	for name, widen := range map[string]func(s *api.Stand){
		"minutes 1..5 and 36..40": func(s *api.Stand) { s.Minutes[0], s.Minutes[2] = span(1, 5), span(36, 40) },
		"one run":                 func(s *api.Stand) { s.Runs = s.Runs[:1] },
		"four runs":               func(s *api.Stand) { s.Runs = []api.StandRun{run(0, 1), run(1, 2), run(2, 3), run(599, 600)} },
		"a run of the whole day":  func(s *api.Stand) { s.Runs = []api.StandRun{run(0, 600)} },
		"no sheep":                func(s *api.Stand) { s.Sheep = nil },
		"sixteen sheep":           func(s *api.Stand) { s.Sheep = []int{0, 1, 2, 0, 1, 2, 0, 1, 2, 0, 1, 2, 0, 1, 2, 2} },
		"four looks": func(s *api.Stand) {
			s.Looks = []api.StandLook{counted(0, 0, 0), counted(0, 0, 16), counted(600, 0, 16), counted(600, 0, 6)}
		},
	} {
		s := standS()
		widen(&s)
		if _, e := stand.Count(s, 0); e != api.OK {
			t.Error(name, e)
		}
		if _, e := stand.Clash(s); e != api.ErrNone {
			t.Error(name, e)
		}
	}
}

// ErrRange comes behind ErrArg, and before ErrClash.
func TestRange(t *testing.T) {
	for i, s := range []api.Stand{standS(), standN()} {
		for _, x := range []struct {
			functions []string
			numbers   []int
		}{
			{[]string{"Done"}, []int{-1, 6, 7, 16}},
			{[]string{"Count"}, []int{-1, api.StandNone, api.StandNone + 1}},
			{[]string{"Takes"}, []int{-1, api.StandKinds, 6}},
			{[]string{"Begun", "Over", "Late"}, []int{-1, 2, 3, 4}},
			{[]string{"Late"}, []int{0}},
		} {
			for _, n := range append(x.numbers, math.MinInt, math.MaxInt) {
				for _, function := range x.functions {
					if got := callAll(s, n, n, n, n)[function]; got != failed(api.ErrRange) {
						t.Error(i, function, n, got)
					}
				}
			}
		}
	}
}

// Numbers that just are such are no error; of a stand without sheep no sheep is one, but kinds and runs are.
func TestWithinRange(t *testing.T) {
	for _, numbers := range [][4]int{{0, 0, 0, 1}, {5, api.StandNone - 1, api.StandKinds - 1, 1}} {
		for function, got := range callAll(standS(), numbers[0], numbers[1], numbers[2], numbers[3]) {
			if function != "Clash" && got.e != api.OK {
				t.Error(function, numbers, got)
			}
		}
	}
	empty := standS()
	empty.Sheep = []int{}
	for function, want := range map[string]result{
		"Done":  failed(api.ErrRange),
		"Count": fromSpan(span(0, 0), api.OK),
		"Takes": fromSpan(span(8, 10), api.OK),
		"Begun": fromSpan(span(0, 0), api.OK),
		"Over":  fromSpan(span(0, 0), api.OK),
		"Late":  fromInt(api.StandNever, api.OK),
		"Clash": failed(api.ErrNone),
	} {
		if got := callAll(empty, 0, 5, 2, 1)[function]; got != want {
			t.Error(function, got, "want", want)
		}
	}
	single := standS()
	single.Runs = single.Runs[:1]
	if got := fromInt(stand.Late(single, 1)); got != failed(api.ErrRange) {
		t.Error(got)
	}
}

// ErrClash comes last, with zero results; Clash alone does not return it.
func TestNoTruth(t *testing.T) {
	none := standS(counted(600, 1, 16))
	none.Sheep = nil
	for i, s := range []api.Stand{standN(), standS(counted(0, 1, 16)), standS(counted(600, 7, 7)), none} {
		for function, got := range callAll(s, 0, 5, 1, 1) {
			switch {
			case function == "Clash":
				if got.e != api.OK || got.lo == 0 {
					t.Error(i, function, got)
				}
			case function == "Done" && len(s.Sheep) == 0:
				if got != failed(api.ErrRange) {
					t.Error(i, function, got)
				}
			case got != failed(api.ErrClash):
				t.Error(i, function, got)
			}
		}
	}
}

// P1: whatever the arguments are, each function ends, and does not panic.
func TestAnything(t *testing.T) {
	extremes := []int{math.MinInt, math.MinInt + 1, -1, 0, 1, 2, 3, 4, 12, 16, 40, 600, 999, math.MaxInt - 1, math.MaxInt}
	r := chance(7)
	pick := func() int { return extremes[r.below(len(extremes))] }
	wild := func() api.Span { return span(pick(), pick()) }
	for range 3000 {
		s := standX()
		for range 1 + r.below(3) {
			switch r.below(7) {
			case 0:
				s.Minutes[r.below(3)] = wild()
			case 1:
				s.Runs[r.below(2)].Start = pick()
			case 2:
				s.Runs[r.below(2)].Bell = pick()
			case 3:
				s.Runs[r.below(2)] = run(pick(), pick())
			case 4:
				s.Sheep[r.below(6)] = pick()
			case 5:
				s.Looks[0].Minute = pick()
			case 6:
				s.Looks[0].Done = wild()
			}
		}
		callAll(s, pick(), pick(), pick(), pick())
	}
}

// R3, R4 and P4.8: a nil list is the same as an empty one, no argument is changed, and a call tells nothing to the next one.
func TestArguments(t *testing.T) {
	bare, empty := standS(), standS()
	bare.Looks, empty.Looks = nil, []api.StandLook{}
	bare.Sheep, empty.Sheep = nil, []int{}
	if got, want := callAll(empty, 0, 5, 1, 1), callAll(bare, 0, 5, 1, 1); !reflect.DeepEqual(got, want) {
		t.Error(got, want)
	}
	for i, make := range []func() api.Stand{
		standX, standN, func() api.Stand { return touching() },
		func() api.Stand {
			return standS(counted(25, 6, 6), counted(12, 0, 3), counted(3, 0, 0), counted(11, 2, 2))
		},
	} {
		s := make()
		first := callAll(s, 3, 12, 0, 1)
		if !reflect.DeepEqual(s, make()) {
			t.Error(i, "changed", s)
		}
		callAll(long(40, 16), 3, 12, 0, 1)
		if again := callAll(s, 3, 12, 0, 1); !reflect.DeepEqual(first, again) {
			t.Error(i, first, again)
		}
	}
}

// R4: what lies behind the end of a list is neither read nor written.
func TestBehindLists(t *testing.T) {
	runs := []api.StandRun{run(0, 12), run(15, 25), run(-5, -7)}
	sheep := []int{0, 1, 0, 2, 0, 0, 9, -9}
	looks := []api.StandLook{counted(25, 6, 6), counted(11, 2, 2), counted(4, 0, 16), counted(-1, 5, 4)}
	s := standS(looks[:3]...)
	s.Runs, s.Sheep = runs[:2], sheep[:6]
	if got, e := stand.Clash(s); got != 3 || e != api.OK {
		t.Error(got, e)
	}
	s.Looks = looks[1:3]
	if got, want := callAll(s, 3, 25, 0, 1), callAll(standX(), 3, 25, 0, 1); !reflect.DeepEqual(got, want) {
		t.Error(got, want)
	}
	if !reflect.DeepEqual(looks, []api.StandLook{counted(25, 6, 6), counted(11, 2, 2), counted(4, 0, 16), counted(-1, 5, 4)}) {
		t.Error("changed", looks)
	}
	if runs[2] != run(-5, -7) || sheep[6] != 9 || sheep[7] != -9 {
		t.Error("changed", runs, sheep)
	}
}
