package classer_test

import (
	"math"
	"reflect"
	"slices"
	"testing"

	"shearworks/api"
	"shearworks/classer"
)

// result is what a function returned; its numbers in the order in which they stand.
type result struct {
	numbers [2]int
	e       api.Errno
}

func fromSpan(s api.Span, e api.Errno) result { return result{[2]int{s.Lo, s.Hi}, e} }

func fromInt(n int, e api.Errno) result { return result{[2]int{n}, e} }

func failed(e api.Errno) result { return result{e: e} }

// callAll calls each function with the same bale.
func callAll(c api.Classer, bale int) map[string]result {
	return map[string]result{
		"Wrong":    fromSpan(classer.Wrong(c, bale)),
		"All":      fromSpan(classer.All(c)),
		"Keeps":    fromInt(classer.Keeps(c, bale)),
		"Line":     fromInt(classer.Line(c)),
		"Proof":    fromInt(classer.Proof(c)),
		"Mistaken": fromInt(classer.Mistaken(c)),
		"More":     fromInt(classer.More(c, bale)),
		"Clash":    fromInt(classer.Clash(c)),
	}
}

// looksOnly tells whether a function is one of those that answer without a truth too.
func looksOnly(function string) bool { return function == "Mistaken" || function == "Clash" }

// ofBale tells whether a function asks for a bale.
func ofBale(function string) bool {
	return function == "Wrong" || function == "Keeps" || function == "More"
}

func clone(c api.Classer) api.Classer {
	c.Bales = slices.Clone(c.Bales)
	return c
}

// spoilt returns lines of which one thing is not valid, with what it is.
func spoilt() map[string]api.Classer {
	list := map[string]api.Classer{}
	for name, spoil := range map[string]func(c *api.Classer){
		"nothing":     func(c *api.Classer) { *c = api.Classer{} },
		"no bales":    func(c *api.Classer) { c.Bales = nil },
		"empty bales": func(c *api.Classer) { c.Bales = []api.ClassBale{} },
		"seven bales": func(c *api.Classer) {
			*c = allAlike(2, 2, 1, bale(10, 4, 1))
			c.Bales = append(c.Bales, bale(10, 4, 1))
		},
		"may -1":            func(c *api.Classer) { c.May = -1 },
		"may 31":            func(c *api.Classer) { c.May = 31 },
		"may least":         func(c *api.Classer) { c.May = math.MinInt },
		"may greatest":      func(c *api.Classer) { c.May = math.MaxInt },
		"drift -1":          func(c *api.Classer) { c.Drift = -1 },
		"drift 31":          func(c *api.Classer) { c.Drift = 31 },
		"drift least":       func(c *api.Classer) { c.Drift = math.MinInt },
		"drift greatest":    func(c *api.Classer) { c.Drift = math.MaxInt },
		"mistakes -1":       func(c *api.Classer) { c.Mistakes = -1 },
		"mistakes 7":        func(c *api.Classer) { c.Mistakes = 7 },
		"mistakes least":    func(c *api.Classer) { c.Mistakes = math.MinInt },
		"mistakes greatest": func(c *api.Classer) { c.Mistakes = math.MaxInt },
		"no fleeces":        func(c *api.Classer) { c.Bales[0] = bale(0, 0, 0) },
		"fleeces -1":        func(c *api.Classer) { c.Bales[1] = bale(-1, -1, -1) },
		"fleeces 31":        func(c *api.Classer) { c.Bales[2] = bale(31, 0, 0) },
		"fleeces least":     func(c *api.Classer) { c.Bales[2].Fleeces = math.MinInt },
		"fleeces greatest":  func(c *api.Classer) { c.Bales[0].Fleeces = math.MaxInt },
		"looked -1":         func(c *api.Classer) { c.Bales[1] = bale(10, -1, 0) },
		"looked too many":   func(c *api.Classer) { c.Bales[1] = bale(10, 11, 0) },
		"looked least":      func(c *api.Classer) { c.Bales[1].Looked = math.MinInt },
		"looked greatest":   func(c *api.Classer) { c.Bales[1].Looked = math.MaxInt },
		"wrong -1":          func(c *api.Classer) { c.Bales[0].Wrong = -1 },
		"wrong too many":    func(c *api.Classer) { c.Bales[0].Wrong = 5 },
		"wrong unlooked":    func(c *api.Classer) { c.Bales[2] = bale(8, 0, 1) },
		"wrong least":       func(c *api.Classer) { c.Bales[2].Wrong = math.MinInt },
		"wrong greatest":    func(c *api.Classer) { c.Bales[2].Wrong = math.MaxInt },
	} {
		c := lineN()
		spoil(&c)
		list[name] = c
	}
	return list
}

// ErrArg comes before all other errors; with it all other results are zero.
func TestNotValid(t *testing.T) {
	for name, c := range spoilt() {
		for _, bale := range []int{0, 2, -1, 3, math.MinInt, math.MaxInt} {
			for function, got := range callAll(c, bale) {
				if got != failed(api.ErrArg) {
					t.Error(name, function, bale, got)
				}
			}
		}
	}
}

// What lies just within the limits is valid.
func TestLimits(t *testing.T) {
	for name, c := range map[string]api.Classer{
		"least":      line(0, 0, 0, bale(1, 0, 0)),
		"greatest":   allAlike(30, 30, 6, bale(30, 30, 30)),
		"not looked": allAlike(0, 30, 6, bale(30, 0, 0)),
		"none wrong": allAlike(30, 0, 0, bale(30, 30, 0)),
	} {
		if _, e := classer.Wrong(c, len(c.Bales)-1); e != api.OK {
			t.Error(name, e)
		}
		if got, e := classer.Clash(c); got != 0 || e != api.ErrNone {
			t.Error(name, got, e)
		}
		if got, e := classer.Mistaken(c); got != 0 || e != api.OK {
			t.Error(name, got, e)
		}
	}
}

// ErrRange comes behind ErrArg, and before ErrClash.
func TestRange(t *testing.T) {
	for i, c := range []api.Classer{lineC(), lineN()} {
		for _, bale := range []int{-1, 3, 4, 6, math.MinInt, math.MaxInt} {
			for function, got := range callAll(c, bale) {
				if ofBale(function) && got != failed(api.ErrRange) {
					t.Error(i, function, bale, got)
				}
			}
		}
	}
	for bale := range 3 {
		for function, got := range callAll(lineC(), bale) {
			if ofBale(function) && got.e != api.OK && (function != "More" || bale != 2) {
				t.Error(function, bale, got)
			}
		}
	}
}

// ErrClash comes before ErrNone, with zero results; only of looks something is said without a truth.
func TestNoTruth(t *testing.T) {
	for i, c := range []api.Classer{lineN(), line(2, 0, 0, bale(9, 9, 9), bale(9, 9, 0)), line(0, 0, 0, bale(2, 2, 2), bale(1, 0, 0))} {
		for bale := range c.Bales {
			for function, got := range callAll(c, bale) {
				if looksOnly(function) != (got.e == api.OK) || !looksOnly(function) && got != failed(api.ErrClash) {
					t.Error(i, function, bale, got)
				}
			}
		}
	}
}

// ErrNone comes with zero results.
func TestNone(t *testing.T) {
	for name, got := range map[string]result{
		"Proof": fromInt(classer.Proof(lineC())),
		"More":  fromInt(classer.More(lineC(), 2)),
		"Clash": fromInt(classer.Clash(lineC())),
	} {
		if got != failed(api.ErrNone) {
			t.Error(name, got)
		}
	}
}

// P1: whatever the arguments are, each function ends, and does not panic.
func TestAnything(t *testing.T) {
	extremes := []int{math.MinInt, math.MinInt + 1, -7, -1, 0, 1, 2, 3, 4, 5, 6, 7, 29, 30, 31, math.MaxInt - 1, math.MaxInt}
	r := chance(7)
	pick := func() int { return extremes[r.below(len(extremes))] }
	for range 5000 {
		c := anyLine(&r, big())
		for range 1 + r.below(3) {
			b := &c.Bales[r.below(len(c.Bales))]
			switch r.below(7) {
			case 0:
				c.May = pick()
			case 1:
				c.Drift = pick()
			case 2:
				c.Mistakes = pick()
			case 3:
				b.Fleeces = pick()
			case 4:
				b.Looked = pick()
			case 5:
				b.Wrong = pick()
			case 6:
				c.Bales = append(c.Bales, api.ClassBale{Fleeces: pick(), Looked: pick(), Wrong: pick()})
			}
		}
		callAll(c, pick())
	}
}

// P6.7, R4: no argument is changed, and a call tells nothing to the next one.
func TestArguments(t *testing.T) {
	for i, make := range []func() api.Classer{lineC, lineD, lineN, func() api.Classer { return allAlike(9, 1, 3, bale(30, 11, 5)) }} {
		c := make()
		before := callAll(c, 1)
		if !reflect.DeepEqual(c, make()) {
			t.Error(i, "changed", c)
		}
		callAll(allAlike(3, 2, 1, bale(12, 5, 1)), 1)
		if again := callAll(c, 1); !reflect.DeepEqual(before, again) {
			t.Error(i, before, again)
		}
	}
}

// R4: what lies behind the end of a list is neither read nor written.
func TestBehindLists(t *testing.T) {
	list := func() []api.ClassBale {
		return []api.ClassBale{bale(9, 9, 9), bale(10, 4, 1), bale(10, 5, 0), bale(8, 8, 3), bale(9, 9, 9), bale(-1, 5, 9)}
	}
	bales := list()
	c := lineC()
	c.Bales = bales[1:4]
	for bale := range 3 {
		if got, want := callAll(c, bale), callAll(lineC(), bale); !reflect.DeepEqual(got, want) {
			t.Error(bale, got, want)
		}
	}
	if !reflect.DeepEqual(bales, list()) {
		t.Error("changed", bales)
	}
}
