package dry_test

import (
	"math"
	"reflect"
	"testing"

	"shearworks/api"
	"shearworks/dry"
)

// result is what a function returned; its numbers in the order in which they stand.
type result struct {
	numbers [2]int
	e       api.Errno
}

func fromSpan(s api.Span, e api.Errno) result { return result{[2]int{s.Lo, s.Hi}, e} }

func fromInt(n int, e api.Errno) result { return result{[2]int{n}, e} }

func fromTwo(a, b int, e api.Errno) result { return result{[2]int{a, b}, e} }

func failed(e api.Errno) result { return result{e: e} }

// callAll calls each function with the same numbers.
func callAll(d api.Dry, mob, pen int) map[string]result {
	return map[string]result{
		"Mob":   fromSpan(dry.Mob(d, mob)),
		"Pen":   fromSpan(dry.Pen(d, pen)),
		"Part":  fromSpan(dry.Part(d, mob, pen)),
		"Dry":   fromInt(dry.Dry(d, pen)),
		"Shear": fromTwo(dry.Shear(d)),
		"Sheep": fromInt(dry.Sheep(d)),
		"All":   fromSpan(dry.All(d)),
		"Clash": fromInt(dry.Clash(d)),
	}
}

// spoilt returns sheep of which one thing is not valid, with what it is.
func spoilt() map[string]api.Dry {
	list := map[string]api.Dry{}
	for name, spoil := range map[string]func(d *api.Dry){
		"nothing":             func(d *api.Dry) { *d = api.Dry{} },
		"no mobs":             func(d *api.Dry) { d.Mobs = nil },
		"empty mobs":          func(d *api.Dry) { d.Mobs = []api.DryMob{} },
		"five mobs":           func(d *api.Dry) { d.Mobs = make([]api.DryMob, 5) },
		"no pens":             func(d *api.Dry) { d.Pens = nil },
		"empty pens":          func(d *api.Dry) { d.Pens = []api.DryPen{} },
		"six pens":            func(d *api.Dry) { d.Mobs, d.Pens = make([]api.DryMob, 2), make([]api.DryPen, 6) },
		"limit -1":            func(d *api.Dry) { d.Limit = -1 },
		"limit 37":            func(d *api.Dry) { d.Limit = 37 },
		"limit least":         func(d *api.Dry) { d.Limit = math.MinInt },
		"limit greatest":      func(d *api.Dry) { d.Limit = math.MaxInt },
		"from -1":             func(d *api.Dry) { d.Pens[0].From[1] = -1 },
		"from 10":             func(d *api.Dry) { d.Pens[1].From[0] = 10 },
		"from greatest":       func(d *api.Dry) { d.Pens[0].From[0], d.Pens[1].From[0] = math.MaxInt, math.MaxInt },
		"from of a third mob": func(d *api.Dry) { d.Mobs = append(d.Mobs, herd(0, 0, 0)) },
		"found -1":            func(d *api.Dry) { d.Pens[0].Found = span(-1, 0) },
		"found 37":            func(d *api.Dry) { d.Pens[1].Found = span(0, 37) },
		"found turned":        func(d *api.Dry) { d.Pens[1].Found = span(1, 0) },
		"found all":           func(d *api.Dry) { d.Pens[1].Found = span(math.MinInt, math.MaxInt) },
		"found all turned":    func(d *api.Dry) { d.Pens[1].Found = span(math.MaxInt, math.MinInt) },
		"left -1":             func(d *api.Dry) { d.Mobs[0].Left = -1 },
		"left 10":             func(d *api.Dry) { d.Mobs[1].Left = 10 },
		"left greatest":       func(d *api.Dry) { d.Mobs[1].Left = math.MaxInt },
		"wet -1":              func(d *api.Dry) { d.Mobs[0].Wet = span(-1, 0) },
		"wet 55":              func(d *api.Dry) { d.Mobs[0].Wet = span(0, 55) },
		"wet turned":          func(d *api.Dry) { d.Mobs[1].Wet = span(1, 0) },
		"wet all":             func(d *api.Dry) { d.Mobs[1].Wet = span(math.MinInt, math.MaxInt) },
		"more wet than sheep": func(d *api.Dry) { d.Mobs[0].Wet = span(8, 8) },
		"more wet than in pens": func(d *api.Dry) {
			d.Mobs[1].Wet = span(6, 9)
		},
	} {
		d := sheepD()
		spoil(&d)
		list[name] = d
	}
	return list
}

// ErrArg comes first, whatever else is wrong, and with it all other results are zero.
func TestNotValid(t *testing.T) {
	for name, d := range spoilt() {
		for _, numbers := range [][2]int{{0, 0}, {1, 1}, {-1, -1}, {9, 9}, {math.MinInt, math.MaxInt}} {
			for function, got := range callAll(d, numbers[0], numbers[1]) {
				if got != failed(api.ErrArg) {
					t.Error(name, function, numbers, got)
				}
			}
		}
	}
}

// What lies just within the limits is valid.
func TestLimits(t *testing.T) {
	for name, widen := range map[string]func(d *api.Dry){
		"one mob":      func(d *api.Dry) { d.Mobs = d.Mobs[:1] },
		"one pen":      func(d *api.Dry) { d.Pens = d.Pens[:1] },
		"four mobs":    func(d *api.Dry) { *d = greatest() },
		"limit 0":      func(d *api.Dry) { d.Limit = 0 },
		"limit 36":     func(d *api.Dry) { d.Limit = 36 },
		"from 0 and 9": func(d *api.Dry) { d.Pens[0].From[0], d.Pens[1].From[0] = 0, 9 },
		"found 0..36":  func(d *api.Dry) { d.Pens[0].Found = span(0, 36) },
		"left 9":       func(d *api.Dry) { d.Mobs[0].Left = 9 },
		"wet 0..54":    func(d *api.Dry) { d.Mobs[0].Wet = span(0, 54) },
		"as many wet as sheep": func(d *api.Dry) {
			d.Mobs[0].Wet, d.Mobs[1].Wet, d.Pens[0].Found = span(7, 54), span(5, 5), span(0, 36)
		},
	} {
		d := sheepD()
		widen(&d)
		if _, _, e := dry.Shear(d); e != api.OK {
			t.Error(name, e)
		}
		if _, e := dry.Clash(d); e != api.ErrNone {
			t.Error(name, e)
		}
	}
}

// ErrRange comes behind ErrArg, and before ErrClash.
func TestRange(t *testing.T) {
	one := oneMob(herd(0, 1, 1), 0, 1)
	clash := felt(oneMob(herd(0, 1, 1), 0, 1), span(2, 2))
	for i, d := range []api.Dry{sheepD(), sheepN(), one, clash} {
		for _, n := range []int{-1, len(d.Mobs), len(d.Pens), 4, 5, math.MinInt, math.MaxInt} {
			for _, function := range []string{"Mob", "Part"} {
				if got := callAll(d, n, 0)[function]; got != failed(api.ErrRange) {
					t.Error(i, function, n, got)
				}
			}
			for _, function := range []string{"Pen", "Part", "Dry"} {
				if got := callAll(d, 0, n)[function]; got != failed(api.ErrRange) {
					t.Error(i, function, n, got)
				}
			}
		}
	}
	if got, e := dry.Pen(oneMob(herd(0, 1, 1), 0, 1, 2, 3), 2); got != span(0, 1) || e != api.OK {
		t.Error("as many pens as there are, but fewer mobs", got, e)
	}
}

// ErrClash comes last, with zero results; Clash alone does not return it.
func TestNoTruth(t *testing.T) {
	for i, d := range []api.Dry{
		sheepN(),
		felt(oneMob(herd(1, 1, 0), 9, 2), span(3, 9)),
		felt(oneMob(herd(5, 5, 0), 9, 5), span(4, 4)),
		felt(oneMob(herd(5, 5, 1), 9, 5), span(3, 3)),
		felt(oneMob(herd(0, 2, 9), 9, 5), span(3, 5)),
	} {
		for function, got := range callAll(d, 0, 0) {
			if function == "Clash" {
				if got.e != api.OK || got.numbers[0] == 0 {
					t.Error(i, function, got)
				}
			} else if got != failed(api.ErrClash) {
				t.Error(i, function, got)
			}
		}
	}
}

// P1: whatever the arguments are, each function ends, and does not panic.
func TestAnything(t *testing.T) {
	extremes := []int{math.MinInt, math.MinInt + 1, -1, 0, 1, 2, 9, 10, 36, 37, 54, 55, math.MaxInt - 1, math.MaxInt}
	r := chance(7)
	pick := func() int { return extremes[r.below(len(extremes))] }
	wild := func() api.Span { return span(pick(), pick()) }
	for range 5000 {
		d := sheepE()
		for range 1 + r.below(3) {
			switch r.below(5) {
			case 0:
				d.Mobs[r.below(2)].Wet = wild()
			case 1:
				d.Mobs[r.below(2)].Left = pick()
			case 2:
				d.Pens[r.below(2)].Found = wild()
			case 3:
				d.Pens[r.below(2)].From[r.below(4)] = pick()
			case 4:
				d.Limit = pick()
			}
		}
		callAll(d, pick(), pick())
	}
}

// R8: what pens say of mobs that are none is not looked at.
func TestMobsThatAreNone(t *testing.T) {
	for _, n := range []int{-1, 0, 10, math.MinInt, math.MaxInt} {
		d := sheepD()
		d.Limit = 5
		want := callAll(d, 0, 1)
		for number := range d.Pens {
			d.Pens[number].From[2], d.Pens[number].From[3] = n, n
		}
		if got := callAll(d, 0, 1); !reflect.DeepEqual(got, want) {
			t.Error(n, got, want)
		}
	}
}

// P2.7, R2 and R4: no argument is changed, and what is asked first makes no difference.
func TestArguments(t *testing.T) {
	for i, make := range []func() api.Dry{sheepD, sheepE, sheepN, greatest} {
		d := make()
		first := callAll(d, 1, 1)
		if !reflect.DeepEqual(d, make()) {
			t.Error(i, "changed", d)
		}
		if again := callAll(d, 1, 1); !reflect.DeepEqual(first, again) {
			t.Error(i, first, again)
		}
		if other := callAll(make(), 1, 1); !reflect.DeepEqual(first, other) {
			t.Error(i, first, other)
		}
	}
}
