package bean_test

import (
	"math"
	"reflect"
	"testing"

	"shearworks/api"
	"shearworks/bean"
)

// result is what a function returned; its numbers in the order in which they stand.
type result struct {
	numbers [2]int
	e       api.Errno
}

func fromSpan(s api.Span, e api.Errno) result { return result{[2]int{s.Lo, s.Hi}, e} }

func fromInt(n int, e api.Errno) result { return result{[2]int{n}, e} }

func fromTwo(a, b int, e api.Errno) result { return result{[2]int{a, b}, e} }

func failed(e api.Errno) result { return result{e: e} }

// callAll calls each function with the same numbers.
func callAll(b api.Bean, voter, other, whites int) map[string]result {
	return map[string]result{
		"Whites": fromSpan(bean.Whites(b)),
		"White":  fromInt(bean.White(b, voter)),
		"Known":  fromTwo(bean.Known(b)),
		"Passed": fromInt(bean.Passed(b)),
		"Same":   fromInt(bean.Same(b, voter, other)),
		"Count":  fromInt(bean.Count(b)),
		"Tell":   fromTwo(bean.Tell(b, whites)),
		"Quiet":  fromInt(bean.Quiet(b)),
		"Clash":  fromInt(bean.Clash(b)),
	}
}

// spoilt returns votes of which one thing is not valid, with what it is.
func spoilt() map[string]api.Bean {
	list := map[string]api.Bean{}
	for name, spoil := range map[string]func(b *api.Bean){
		"nothing":               func(b *api.Bean) { *b = api.Bean{} },
		"no voters":             func(b *api.Bean) { *b = votes(0, 0, 0, 0) },
		"nine voters":           func(b *api.Bean) { b.Voters = 9 },
		"voters -1":             func(b *api.Bean) { b.Voters = -1 },
		"voters least":          func(b *api.Bean) { b.Voters = math.MinInt },
		"voters greatest":       func(b *api.Bean) { b.Voters = math.MaxInt },
		"too few voters":        func(b *api.Bean) { b.Voters = 4 }, // for the group B
		"need -1":               func(b *api.Bean) { b.Need = -1 },
		"need 6":                func(b *api.Bean) { b.Need = 6 },
		"need greatest":         func(b *api.Bean) { b.Need = math.MaxInt },
		"whites -1":             func(b *api.Bean) { b.Whites = span(-1, 2) },
		"whites 6":              func(b *api.Bean) { b.Whites = span(2, 6) },
		"whites turned":         func(b *api.Bean) { b.Whites = span(3, 2) },
		"whites all":            func(b *api.Bean) { b.Whites = span(math.MinInt, math.MaxInt) },
		"whites all turned":     func(b *api.Bean) { b.Whites = span(math.MaxInt, math.MinInt) },
		"five groups":           func(b *api.Bean) { b.Groups = make([]api.BeanGroup, 5) },
		"group of -1":           func(b *api.Bean) { b.Groups[0].Voters = -1 },
		"group of the voter 5":  func(b *api.Bean) { b.Groups[1].Voters = 32 },
		"group of 0 and 5":      func(b *api.Bean) { b.Groups[1].Voters = 33 },
		"group of the greatest": func(b *api.Bean) { b.Groups[0].Voters = math.MaxInt },
		"group of the least":    func(b *api.Bean) { b.Groups[0].Voters = math.MinInt },
		"group whites -1":       func(b *api.Bean) { b.Groups[0].Whites = span(-1, 1) },
		"group whites 9":        func(b *api.Bean) { b.Groups[1].Whites = span(1, 9) },
		"group whites turned":   func(b *api.Bean) { b.Groups[1].Whites = span(1, 0) },
		"group whites all":      func(b *api.Bean) { b.Groups[0].Whites = span(math.MinInt, math.MaxInt) },
		"empty group turned":    func(b *api.Bean) { b.Groups[0] = group(0, 1, 0) },
		"five pairs": func(b *api.Bean) {
			b.Pairs = []api.BeanPair{same(0, 1), same(0, 1), same(0, 1), same(0, 1), same(0, 1)}
		},
		"pair of one":          func(b *api.Bean) { b.Pairs[0] = same(1, 1) },
		"other pair of one":    func(b *api.Bean) { b.Pairs[0] = differ(4, 4) },
		"pair with 5":          func(b *api.Bean) { b.Pairs[0] = same(1, 5) },
		"pair of 5":            func(b *api.Bean) { b.Pairs[0] = same(5, 1) },
		"pair of -1":           func(b *api.Bean) { b.Pairs[0] = differ(-1, 1) },
		"pair with -1":         func(b *api.Bean) { b.Pairs[0] = differ(1, -1) },
		"pair of the greatest": func(b *api.Bean) { b.Pairs[0] = differ(math.MaxInt, math.MinInt) },
		"wrong behind a good":  func(b *api.Bean) { b.Pairs = append(b.Pairs, same(2, 3), same(3, 3)) },
	} {
		b := voteV()
		spoil(&b)
		list[name] = b
	}
	return list
}

// ErrArg comes first, whatever else is wrong, and with it all other results are zero.
func TestNotValid(t *testing.T) {
	for name, b := range spoilt() {
		for _, numbers := range [][3]int{{0, 1, 2}, {-1, -1, -1}, {9, 9, 9}, {math.MinInt, math.MaxInt, math.MinInt}} {
			for function, got := range callAll(b, numbers[0], numbers[1], numbers[2]) {
				if got != failed(api.ErrArg) {
					t.Error(name, function, numbers, got)
				}
			}
		}
	}
}

// What lies just within the limits is valid.
func TestLimits(t *testing.T) {
	for name, widen := range map[string]func(b *api.Bean){
		"one voter":       func(b *api.Bean) { *b = votes(1, 0, 0, 1) },
		"eight voters":    func(b *api.Bean) { *b = grouped(votes(8, 8, 0, 8), group(255, 0, 8)) },
		"need 0":          func(b *api.Bean) { b.Need = 0 },
		"need 5":          func(b *api.Bean) { b.Need = 5 },
		"whites 0..5":     func(b *api.Bean) { b.Whites = span(0, 5) },
		"no groups":       func(b *api.Bean) { b.Groups = []api.BeanGroup{} },
		"four groups":     func(b *api.Bean) { b.Groups = append(b.Groups, group(0, 0, 0), group(31, 0, 8)) },
		"group 0..8 of 1": func(b *api.Bean) { b.Groups[0] = group(1, 0, 8) },
		"group 1..8 of 1": func(b *api.Bean) { b.Groups[0] = group(1, 1, 8) },
		"no pairs":        func(b *api.Bean) { b.Pairs = []api.BeanPair{} },
		"four pairs":      func(b *api.Bean) { b.Pairs = []api.BeanPair{same(0, 1), same(1, 0), same(0, 1), differ(4, 0)} },
	} {
		b := voteV()
		widen(&b)
		if _, e := bean.Whites(b); e != api.OK {
			t.Error(name, e)
		}
		if _, e := bean.Clash(b); e != api.ErrNone {
			t.Error(name, e)
		}
	}
}

// What can surely not be right is valid all the same.
func TestValidButWrong(t *testing.T) {
	for i, b := range []api.Bean{
		grouped(votes(1, 0, 0, 1), group(0, 8, 8)),
		grouped(votes(1, 0, 0, 1), group(1, 2, 8)),
		grouped(votes(2, 0, 0, 0), group(3, 1, 1)),
	} {
		if got := fromInt(bean.Count(b)); got != (result{}) {
			t.Error(i, got)
		}
		if got := fromSpan(bean.Whites(b)); got != failed(api.ErrClash) {
			t.Error(i, got)
		}
	}
}

// ErrRange comes behind ErrArg, and before ErrClash.
func TestRange(t *testing.T) {
	for i, b := range []api.Bean{voteV(), voteN(), votes(1, 0, 0, 1), votes(8, 0, 8, 8)} {
		for _, n := range []int{-1, b.Voters, b.Voters + 1, 64, math.MinInt, math.MaxInt} {
			for _, got := range []result{fromInt(bean.White(b, n)), fromInt(bean.Same(b, n, 0)), fromInt(bean.Same(b, 0, n)), fromInt(bean.Same(b, n, n))} {
				if got != failed(api.ErrRange) {
					t.Error(i, n, got)
				}
			}
			if got := fromTwo(bean.Tell(b, n)); n != b.Voters && got != failed(api.ErrRange) {
				t.Error(i, "Tell", n, got)
			}
		}
	}
	if got := fromTwo(bean.Tell(votes(8, 0, 0, 8), 8)); got != fromTwo(255, 0, api.OK) {
		t.Error("as many white beans as voters", got)
	}
}

// ErrClash comes before ErrNone, with zero results; Count and Clash alone do not return it.
func TestNoTruth(t *testing.T) {
	for i, b := range []api.Bean{
		voteN(),
		grouped(votes(3, 1, 0, 3), group(0, 1, 8)),
		grouped(votes(3, 0, 0, 1), group(7, 2, 3)),
		paired(votes(3, 1, 0, 3), same(0, 1), differ(1, 0)),
		paired(votes(3, 0, 1, 3), differ(0, 1), differ(1, 2), differ(2, 0)),
		paired(votes(2, 0, 0, 0), differ(0, 1)),
	} {
		for whites := range b.Voters + 1 {
			for function, got := range callAll(b, 0, 1, whites) {
				switch function {
				case "Count":
					if got != (result{}) {
						t.Error(i, got)
					}
				case "Clash":
					if got.e != api.OK || got.numbers[0] == 0 {
						t.Error(i, got)
					}
				default:
					if got != failed(api.ErrClash) {
						t.Error(i, function, got)
					}
				}
			}
		}
		if got := fromInt(bean.Same(b, 1, 1)); got != failed(api.ErrClash) {
			t.Error(i, "Same of one", got)
		}
	}
}

// P1: whatever the arguments are, each function ends, and does not panic.
func TestAnything(t *testing.T) {
	extremes := []int{math.MinInt, math.MinInt + 1, -1, 0, 1, 2, 5, 7, 8, 9, 31, 32, 255, 256, math.MaxInt - 1, math.MaxInt}
	r := chance(7)
	pick := func() int { return extremes[r.below(len(extremes))] }
	wild := func() api.Span { return span(pick(), pick()) }
	for range 5000 {
		b := voteN()
		for range 1 + r.below(3) {
			switch r.below(7) {
			case 0:
				b.Voters = pick()
			case 1:
				b.Need = pick()
			case 2:
				b.Whites = wild()
			case 3:
				b.Groups[r.below(3)].Voters = pick()
			case 4:
				b.Groups[r.below(3)].Whites = wild()
			case 5:
				b.Pairs[r.below(2)].A = pick()
			case 6:
				b.Pairs[r.below(2)].B = pick()
			}
		}
		callAll(b, pick(), pick(), pick())
	}
	if _, e := bean.Whites(grouped(votes(8, 0, 0, 8), make([]api.BeanGroup, 100000)...)); e != api.ErrArg {
		t.Error(e)
	}
}

// R3, R4 and R5: a nil list is the same as an empty one, no argument is changed, and what is asked first makes no difference.
func TestArguments(t *testing.T) {
	nothing := votes(3, 1, 0, 3)
	empty := paired(grouped(votes(3, 1, 0, 3), []api.BeanGroup{}...), []api.BeanPair{}...)
	if got, want := callAll(empty, 0, 1, 2), callAll(nothing, 0, 1, 2); !reflect.DeepEqual(got, want) {
		t.Error(got, want)
	}
	for i, make := range []func() api.Bean{voteV, voteK, voteN, chain, couples} {
		b := make()
		first := callAll(b, 0, 2, 2)
		if !reflect.DeepEqual(b, make()) {
			t.Error(i, "changed", b)
		}
		if again := callAll(b, 0, 2, 2); !reflect.DeepEqual(first, again) {
			t.Error(i, first, again)
		}
	}
}

// R4: what lies behind the end of a list is not touched.
func TestBehindLists(t *testing.T) {
	groups := []api.BeanGroup{group(7, 2, 3), group(28, 0, 1), group(3, 1, 1)}
	pairs := []api.BeanPair{same(0, 1), differ(2, 3)}
	callAll(paired(grouped(votes(5, 3, 2, 3), groups[:2]...), pairs[:1]...), 0, 2, 2)
	if groups[2] != group(3, 1, 1) || pairs[1] != differ(2, 3) {
		t.Error(groups, pairs)
	}
}
