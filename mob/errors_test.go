package mob_test

import (
	"math"
	"reflect"
	"testing"

	"shearworks/api"
	"shearworks/mob"
)

// result is what a function returned; its numbers in the order in which they stand.
type result struct {
	numbers [2]int
	e       api.Errno
}

func fromSpan(s api.Span, e api.Errno) result { return result{[2]int{s.Lo, s.Hi}, e} }

func fromInt(n int, e api.Errno) result { return result{[2]int{n}, e} }

func fromTwo(a, b int, e api.Errno) result { return result{[2]int{a, b}, e} }

// callAll calls each function with the same numbers.
func callAll(m api.Mob, herd, other, place, day int) map[string]result {
	return map[string]result{
		"Comes":   fromSpan(mob.Comes(m, herd, place)),
		"Where":   fromInt(mob.Where(m, herd, day)),
		"Stretch": fromSpan(mob.Stretch(m, herd)),
		"Safe":    fromInt(mob.Safe(m, herd)),
		"Ahead":   fromInt(mob.Ahead(m, herd, other)),
		"There":   fromTwo(mob.There(m, day)),
		"Clash":   fromInt(mob.Clash(m)),
	}
}

func failed(e api.Errno) result { return result{e: e} }

// spoilt returns ways of which one thing is not valid, with what it is.
func spoilt() map[string]api.Mob {
	list := map[string]api.Mob{}
	for name, spoil := range map[string]func(m *api.Mob){
		"nothing":           func(m *api.Mob) { *m = api.Mob{} },
		"no places":         func(m *api.Mob) { m.Places = nil },
		"empty places":      func(m *api.Mob) { m.Places, m.Legs = []api.MobPlace{}, []api.Span{} },
		"one place":         func(m *api.Mob) { m.Places, m.Legs = m.Places[:1], nil },
		"seven places":      func(m *api.Mob) { m.Places, m.Legs = make([]api.MobPlace, 7), append(m.Legs, m.Legs...) },
		"rest 4":            func(m *api.Mob) { m.Places[2].Rest = 4 },
		"rest -1":           func(m *api.Mob) { m.Places[2].Rest = -1 },
		"dry rest 4":        func(m *api.Mob) { m.Places[1].Rest = 4 },
		"dry rest -1":       func(m *api.Mob) { m.Places[1].Rest = -1 },
		"shed rest 4":       func(m *api.Mob) { m.Places[3].Rest = 4 },
		"rest least":        func(m *api.Mob) { m.Places[0].Rest = math.MinInt },
		"rest greatest":     func(m *api.Mob) { m.Places[0].Rest = math.MaxInt },
		"no legs":           func(m *api.Mob) { m.Legs = nil },
		"a leg too few":     func(m *api.Mob) { m.Legs = m.Legs[:2] },
		"a leg too many":    func(m *api.Mob) { m.Legs = append(m.Legs, span(1, 1)) },
		"leg 0":             func(m *api.Mob) { m.Legs[0] = span(0, 1) },
		"leg 6":             func(m *api.Mob) { m.Legs[2] = span(4, 6) },
		"leg too wide":      func(m *api.Mob) { m.Legs[0] = span(1, 4) },
		"leg turned":        func(m *api.Mob) { m.Legs[1] = span(2, 1) },
		"leg all":           func(m *api.Mob) { m.Legs[1] = span(math.MinInt, math.MaxInt) },
		"leg all turned":    func(m *api.Mob) { m.Legs[1] = span(math.MaxInt, math.MinInt) },
		"five mobs":         func(m *api.Mob) { m.Herds = make([]api.MobHerd, 5) },
		"start at the shed": func(m *api.Mob) { m.Herds[0].Start = 3 },
		"start -1":          func(m *api.Mob) { m.Herds[1].Start = -1 },
		"start greatest":    func(m *api.Mob) { m.Herds[1].Start = math.MaxInt },
		"leaves too wide":   func(m *api.Mob) { m.Herds[0].Leaves = span(0, 4) },
		"leaves on -1":      func(m *api.Mob) { m.Herds[0].Leaves = span(-1, 0) },
		"leaves on 31":      func(m *api.Mob) { m.Herds[0].Leaves = span(30, 31) },
		"leaves turned":     func(m *api.Mob) { m.Herds[1].Leaves = span(1, 0) },
		"leaves all":        func(m *api.Mob) { m.Herds[1].Leaves = span(math.MinInt, math.MaxInt) },
		"thirst 21":         func(m *api.Mob) { m.Herds[0].Thirst = 21 },
		"thirst -1":         func(m *api.Mob) { m.Herds[1].Thirst = -1 },
		"six seen": func(m *api.Mob) {
			m.Seen = []api.MobSeen{saw(0, 0, 0, 1), saw(0, 0, 0, 1), saw(0, 0, 0, 1), saw(0, 0, 0, 1), saw(0, 0, 0, 1), saw(0, 0, 0, 1)}
		},
		"saw the mob 2":           func(m *api.Mob) { m.Seen = []api.MobSeen{saw(2, 3, 0, 1)} },
		"saw the mob -1":          func(m *api.Mob) { m.Seen = []api.MobSeen{saw(-1, 3, 0, 1)} },
		"saw before its start":    func(m *api.Mob) { m.Seen = []api.MobSeen{saw(1, 0, 0, 1)} },
		"saw at the place 4":      func(m *api.Mob) { m.Seen = []api.MobSeen{saw(0, 4, 0, 1)} },
		"saw at the place -1":     func(m *api.Mob) { m.Seen = []api.MobSeen{saw(0, -1, 0, 1)} },
		"saw turned":              func(m *api.Mob) { m.Seen = []api.MobSeen{saw(0, 1, 1, 0)} },
		"saw on 101":              func(m *api.Mob) { m.Seen = []api.MobSeen{saw(0, 1, 1, 101)} },
		"saw on -1":               func(m *api.Mob) { m.Seen = []api.MobSeen{saw(0, 1, -1, 1)} },
		"saw all":                 func(m *api.Mob) { m.Seen = []api.MobSeen{saw(0, 1, math.MinInt, math.MaxInt)} },
		"saw wrong behind a good": func(m *api.Mob) { m.Seen = []api.MobSeen{saw(0, 1, 0, 9), saw(0, 1, 0, 101)} },
		"saw a mob of none":       func(m *api.Mob) { m.Herds, m.Seen = nil, []api.MobSeen{saw(0, 1, 0, 1)} },
	} {
		m := wayR()
		spoil(&m)
		list[name] = m
	}
	return list
}

// ErrArg comes first, whatever else is wrong, and with it all other results are zero.
func TestNotValid(t *testing.T) {
	for name, m := range spoilt() {
		for _, numbers := range [][4]int{{0, 1, 3, 5}, {-1, -1, -1, -1}, {9, 9, 9, 101}, {math.MinInt, math.MaxInt, math.MaxInt, math.MinInt}} {
			for function, got := range callAll(m, numbers[0], numbers[1], numbers[2], numbers[3]) {
				if got != failed(api.ErrArg) {
					t.Error(name, function, numbers, got)
				}
			}
		}
	}
}

// What lies just within the limits is valid.
func TestLimits(t *testing.T) {
	for name, widen := range map[string]func(m *api.Mob){
		"two places": func(m *api.Mob) {
			m.Places, m.Legs, m.Herds = m.Places[:2], m.Legs[:1], m.Herds[:1]
		},
		"six places": func(m *api.Mob) {
			m.Places, m.Legs = append(m.Places, api.MobPlace{}, api.MobPlace{}), append(m.Legs, span(1, 1), span(5, 5))
		},
		"rest 3":                 func(m *api.Mob) { m.Places[0].Rest, m.Places[1].Rest, m.Places[2].Rest, m.Places[3].Rest = 3, 3, 3, 3 },
		"legs 1..3 and 3..5":     func(m *api.Mob) { m.Legs[0], m.Legs[1] = span(1, 3), span(3, 5) },
		"no mobs":                func(m *api.Mob) { m.Herds = []api.MobHerd{} },
		"four mobs":              func(m *api.Mob) { m.Herds = append(m.Herds, m.Herds...) },
		"start before the shed":  func(m *api.Mob) { m.Herds[0].Start = 2 },
		"leaves 27..30 and 0..3": func(m *api.Mob) { m.Herds[0].Leaves, m.Herds[1].Leaves = span(27, 30), span(0, 3) },
		"thirst 0 and 20":        func(m *api.Mob) { m.Herds[0].Thirst, m.Herds[1].Thirst = 0, 20 },
		"five seen": func(m *api.Mob) {
			m.Seen = []api.MobSeen{saw(0, 0, 0, 100), saw(0, 3, 0, 100), saw(1, 1, 0, 3), saw(1, 1, 3, 100), saw(1, 3, 8, 8)}
		},
	} {
		m := wayR()
		widen(&m)
		if _, _, e := mob.There(m, 0); e != api.OK {
			t.Error(name, e)
		}
		if _, e := mob.Clash(m); e != api.ErrNone {
			t.Error(name, e)
		}
	}
}

// ErrRange comes behind ErrArg, and before ErrClash.
func TestRange(t *testing.T) {
	for _, m := range []api.Mob{wayR(), wayN()} {
		for _, herd := range []int{-1, 2, math.MinInt, math.MaxInt} {
			for _, function := range []string{"Comes", "Where", "Stretch", "Safe", "Ahead"} {
				if got := callAll(m, herd, 0, 3, 5)[function]; got != failed(api.ErrRange) {
					t.Error(function, herd, got)
				}
			}
			if got := callAll(m, 0, herd, 3, 5)["Ahead"]; got != failed(api.ErrRange) {
				t.Error("Ahead of", herd, got)
			}
		}
		for _, day := range []int{-1, 101, math.MinInt, math.MaxInt} {
			for _, function := range []string{"Where", "There"} {
				if got := callAll(m, 0, 1, 3, day)[function]; got != failed(api.ErrRange) {
					t.Error(function, day, got)
				}
			}
		}
		for _, x := range [][2]int{{0, -1}, {0, 4}, {1, 0}, {1, 4}, {0, math.MinInt}, {0, math.MaxInt}} {
			if got := fromSpan(mob.Comes(m, x[0], x[1])); got != failed(api.ErrRange) {
				t.Error(x, got)
			}
		}
	}
	empty := wayR()
	empty.Herds = nil
	for _, function := range []string{"Comes", "Where", "Stretch", "Safe", "Ahead"} {
		if got := callAll(empty, 0, 0, 0, 0)[function]; got != failed(api.ErrRange) {
			t.Error(function, got)
		}
	}
}

// ErrClash comes last, with zero results; Clash alone does not return it.
func TestNoTruth(t *testing.T) {
	for i, m := range []api.Mob{wayN(), wayR(saw(1, 1, 4, 9)), twins(saw(0, 1, 8, 8), saw(1, 1, 5, 6))} {
		for function, got := range callAll(m, 0, 1, 1, 5) {
			if function == "Clash" {
				if got.e != api.OK || got.numbers[0] == 0 {
					t.Error(i, function, got)
				}
			} else if got != failed(api.ErrClash) {
				t.Error(i, function, got)
			}
		}
		if got := fromInt(mob.Ahead(m, 0, 0)); got != failed(api.ErrClash) {
			t.Error(i, got)
		}
	}
}

// P1: whatever the arguments are, each function ends, and does not panic.
func TestAnything(t *testing.T) {
	extremes := []int{math.MinInt, math.MinInt + 1, -1, 0, 1, 2, 5, 30, 100, 101, math.MaxInt - 1, math.MaxInt}
	r := chance(7)
	pick := func() int { return extremes[r.below(len(extremes))] }
	wild := func() api.Span { return span(pick(), pick()) }
	for range 3000 {
		m := wayR(saw(0, 1, 4, 4))
		for range 1 + r.below(3) {
			switch r.below(8) {
			case 0:
				m.Places[r.below(4)].Rest = pick()
			case 1:
				m.Legs[r.below(3)] = wild()
			case 2:
				m.Herds[r.below(2)].Start = pick()
			case 3:
				m.Herds[r.below(2)].Leaves = wild()
			case 4:
				m.Herds[r.below(2)].Thirst = pick()
			case 5:
				m.Seen[0].Mob = pick()
			case 6:
				m.Seen[0].Place = pick()
			case 7:
				m.Seen[0].Days = wild()
			}
		}
		callAll(m, pick(), pick(), pick(), pick())
	}
}

// R3 and R4: a nil list is the same as an empty one, and no argument is changed.
func TestArguments(t *testing.T) {
	bare := wayR()
	empty := wayR([]api.MobSeen{}...)
	empty.Seen = []api.MobSeen{}
	if got, want := callAll(empty, 0, 1, 3, 8), callAll(bare, 0, 1, 3, 8); !reflect.DeepEqual(got, want) {
		t.Error(got, want)
	}
	for i, make := range []func() api.Mob{
		wayK, wayN,
		func() api.Mob { return wayR(saw(0, 0, 0, 1), saw(0, 1, 4, 4), saw(1, 1, 3, 3), saw(0, 2, 3, 4)) },
	} {
		m := make()
		first := callAll(m, 0, 1, 3, 8)
		if !reflect.DeepEqual(m, make()) {
			t.Error(i, "changed", m)
		}
		if again := callAll(m, 0, 1, 3, 8); !reflect.DeepEqual(first, again) {
			t.Error(i, first, again)
		}
	}
}
