package press_test

import (
	"slices"
	"testing"

	"shearworks/api"
	"shearworks/press"
)

func span(lo, hi int) api.Span { return api.Span{Lo: lo, Hi: hi} }

func fleece(lo, hi, line int) api.PressFleece {
	return api.PressFleece{Weight: span(lo, hi), Line: line}
}

func bale(fleeces, lo, hi int) api.PressBale {
	return api.PressBale{Fleeces: fleeces, Weight: span(lo, hi)}
}

// pressing returns a press with no bale that was weighed.
func pressing(low, top, bales int, fleeces ...api.PressFleece) api.Press {
	return api.Press{Fleeces: fleeces, Low: low, Top: top, Bales: bales}
}

func weighed(p api.Press, bales ...api.PressBale) api.Press {
	p.Weighed = bales
	return p
}

// pressP, pressQ and pressR are the presses of the chapter's examples.
func pressP() api.Press {
	return pressing(9, 12, 3, fleece(4, 5, 0), fleece(5, 5, 0), fleece(3, 4, 0), fleece(6, 7, 1), fleece(4, 4, 1), fleece(2, 3, 0))
}

func pressQ() api.Press { return weighed(pressP(), bale(7, 14, 14)) }

func pressR() api.Press { return weighed(pressP(), bale(24, 8, 9)) }

// exactly returns a press of fleeces of the line 0 of which the weight is known.
func exactly(low, top, bales int, weights ...int) api.Press {
	p := pressing(low, top, bales)
	for _, w := range weights {
		p.Fleeces = append(p.Fleeces, fleece(w, w, 0))
	}
	return p
}

// greatest is as much as there can be: ten fleeces, five bales, and four bales that were weighed.
func greatest() api.Press {
	p := pressing(20, 40, 5)
	for n := range 10 {
		p.Fleeces = append(p.Fleeces, fleece(17-n, 20-n, 0))
	}
	return weighed(p, bale(3, 35, 38), bale(12, 31, 32), bale(16, 1, 200), bale(512+256, 8, 19))
}

func between(p api.Press, low, top int) api.Press {
	p.Low, p.Top = low, top
	return p
}

func with(p api.Press, bales int) api.Press {
	p.Bales = bales
	return p
}

// P8.1
func TestWeight(t *testing.T) {
	for i, x := range []struct {
		p       api.Press
		fleeces int
		want    api.Span
	}{
		{pressP(), 0, span(0, 0)},
		{pressP(), 1, span(4, 5)},
		{pressP(), 3, span(9, 10)},
		{pressP(), 9, span(10, 12)}, // of two lines
		{pressP(), 63, span(24, 28)},
		// What is left of a bale that was weighed is as heavy as the others leave.
		{pressQ(), 0, span(0, 0)},
		{pressQ(), 1, span(5, 5)},
		{pressQ(), 2, span(5, 5)},
		{pressQ(), 4, span(4, 4)},
		{pressQ(), 3, span(10, 10)},
		{pressQ(), 7, span(14, 14)},
		{pressQ(), 33, span(7, 8)},
		{pressQ(), 63, span(26, 28)},
		{pressQ(), 56, span(12, 14)}, // nothing is known more of others
		// The fleeces together are known better than each of them.
		{weighed(pressP(), bale(7, 12, 13)), 7, span(12, 13)},
		{weighed(pressP(), bale(7, 12, 13)), 1, span(4, 5)},
		{weighed(pressP(), bale(7, 12, 13)), 5, span(7, 8)},
		{weighed(pressP(), bale(7, 13, 13)), 5, span(8, 8)},
		{weighed(pressP(), bale(7, 13, 13)), 1, span(4, 5)},
		{weighed(pressP(), bale(7, 13, 13)), 4, span(3, 4)},
		{weighed(pressP(), bale(7, 13, 13)), 1 + 32, span(6, 8)},
		// What was weighed says nothing, or says more at one end.
		{weighed(pressP(), bale(7, 1, 200)), 7, span(12, 14)},
		{weighed(pressP(), bale(7, 1, 12)), 5, span(7, 7)},
		{weighed(pressP(), bale(7, 14, 200)), 5, span(9, 9)},
		{weighed(pressP(), bale(1, 5, 9)), 1, span(5, 5)},
		{weighed(pressP(), bale(1, 5, 9)), 5, span(8, 9)},
		// Bales of several lines, and several bales.
		{weighed(pressP(), bale(9, 10, 10)), 1, span(4, 4)},
		{weighed(pressP(), bale(9, 10, 10)), 8, span(6, 6)},
		{weighed(pressP(), bale(5, 7, 7), bale(24, 10, 10)), 9, span(10, 10)},
		{weighed(pressP(), bale(5, 7, 7), bale(24, 10, 10)), 63, span(24, 25)},
		{weighed(pressP(), bale(5, 8, 8), bale(24, 10, 11)), 9, span(10, 12)},
		{pressing(1, 1, 0), 0, span(0, 0)},
		{greatest(), 1, span(17, 20)},
		{greatest(), 4 + 8, span(31, 32)},
		{greatest(), 4, span(15, 18)}, // 31 or 32 without 14..17 are 14..18
		{greatest(), 1023, span(35+31+13+12+11+10+17, 38+32+16+15+14+13+19)},
	} {
		if got, e := press.Weight(x.p, x.fleeces); got != x.want || e != api.OK {
			t.Error(i, got, e, "want", x.want)
		}
	}
}

// P8.2
func TestFits(t *testing.T) {
	for i, x := range []struct {
		p             api.Press
		fleeces, want int
	}{
		{pressP(), 3, api.PressAlways},
		{pressP(), 5, api.PressPerhaps},
		{pressP(), 33, api.PressNever},
		{pressP(), 24, api.PressAlways},
		{pressQ(), 5, api.PressAlways},
		{pressQ(), 7, api.PressNever},
		// None at all fit no bale, nor do those of two lines.
		{pressP(), 0, api.PressNever},
		{between(pressP(), 1, 200), 0, api.PressNever},
		{pressP(), 9, api.PressNever},
		{between(pressP(), 1, 200), 9, api.PressNever},
		{between(pressP(), 1, 200), 63, api.PressNever},
		{between(pressP(), 1, 200), 39, api.PressAlways},
		{pressing(1, 9, 1, fleece(2, 2, 0), fleece(2, 2, 2)), 3, api.PressNever},
		{pressing(1, 9, 1, fleece(2, 2, 1), fleece(2, 2, 2)), 3, api.PressNever},
		{pressing(1, 9, 1, fleece(2, 2, 2), fleece(2, 2, 2)), 3, api.PressAlways},
		{pressing(1, 9, 1, fleece(2, 2, 2), fleece(2, 2, 1)), 2, api.PressAlways},
		// {0, 1, 2} weigh 12..14: both weights belong to what a bale may weigh.
		{between(pressP(), 12, 14), 7, api.PressAlways},
		{between(pressP(), 13, 14), 7, api.PressPerhaps},
		{between(pressP(), 12, 13), 7, api.PressPerhaps},
		{between(pressP(), 13, 13), 7, api.PressPerhaps},
		{between(pressP(), 1, 12), 7, api.PressPerhaps},
		{between(pressP(), 14, 200), 7, api.PressPerhaps},
		{between(pressP(), 1, 11), 7, api.PressNever},
		{between(pressP(), 15, 200), 7, api.PressNever},
		{weighed(between(pressP(), 13, 13), bale(7, 13, 13)), 7, api.PressAlways},
		{weighed(between(pressP(), 13, 13), bale(7, 12, 13)), 7, api.PressPerhaps},
		{weighed(between(pressP(), 13, 13), bale(7, 12, 12)), 7, api.PressNever},
		// How many bales can be pressed makes no difference.
		{with(pressP(), 0), 3, api.PressAlways},
		{greatest(), 3, api.PressAlways},
		{greatest(), 5, api.PressAlways},
		{greatest(), 1, api.PressPerhaps},
		{greatest(), 7, api.PressNever},
	} {
		if got, e := press.Fits(x.p, x.fleeces); got != x.want || e != api.OK {
			t.Error(i, got, e, "want", x.want)
		}
	}
}

// P8.3, P8.4 and P8.5
func TestPressing(t *testing.T) {
	two := pressing(10, 10, 5, fleece(5, 5, 0), fleece(5, 5, 1), fleece(5, 5, 0), fleece(5, 5, 1))
	for i, x := range []struct {
		p       api.Press
		fleeces int
		plan    []int
		wait    [api.PressLines]int
	}{
		{pressP(), 5, []int{24, 37}, [3]int{1, 0, 0}},
		{pressQ(), 5, []int{24, 37}, [3]int{1, 0, 0}},
		{with(pressP(), 2), 5, []int{24, 37}, [3]int{1, 0, 0}},
		{with(pressP(), 1), 3, []int{37}, [3]int{1, 2, 0}},
		{with(pressP(), 0), 0, nil, [3]int{4, 2, 0}},
		{pressing(1, 200, 5), 0, nil, [3]int{}},
		// Each line by itself.
		{two, 4, []int{5, 10}, [3]int{}},
		{with(two, 1), 2, []int{5}, [3]int{0, 2, 0}},
		{between(two, 5, 5), 4, []int{1, 2, 4, 8}, [3]int{}},
		{between(two, 5, 10), 4, []int{5, 10}, [3]int{}},
		{between(two, 20, 20), 0, nil, [3]int{2, 2, 0}},
		// What only perhaps fits is not pressed, unless it is known better.
		{pressing(9, 12, 1, fleece(4, 6, 0), fleece(4, 6, 0)), 0, nil, [3]int{2, 0, 0}},
		{weighed(pressing(9, 12, 1, fleece(4, 6, 0), fleece(4, 6, 0)), bale(3, 1, 9)), 0, nil, [3]int{2, 0, 0}},
		{weighed(pressing(9, 12, 1, fleece(4, 6, 0), fleece(4, 6, 0)), bale(3, 9, 9)), 2, []int{3}, [3]int{}},
		{pressing(8, 11, 1, fleece(4, 6, 2), fleece(4, 6, 2)), 0, nil, [3]int{0, 0, 2}},
		{pressing(8, 12, 1, fleece(4, 6, 2), fleece(4, 6, 2)), 2, []int{3}, [3]int{}},
		// So many fleeces in as few bales as can be.
		{exactly(5, 20, 5, 5, 5, 5, 5), 4, []int{15}, [3]int{}},
		{exactly(5, 19, 5, 5, 5, 5, 5), 4, []int{1, 14}, [3]int{}},
		{exactly(5, 9, 5, 5, 5, 5, 5), 4, []int{1, 2, 4, 8}, [3]int{}},
		{exactly(5, 9, 3, 5, 5, 5, 5), 3, []int{1, 2, 4}, [3]int{1, 0, 0}},
		{exactly(6, 9, 5, 5, 5, 5, 5), 0, nil, [3]int{4, 0, 0}},
		{exactly(10, 10, 5, 5, 5, 5, 5, 5), 4, []int{3, 12}, [3]int{1, 0, 0}},
		// Of several pressings the first one, by the numbers of its bales.
		{exactly(10, 10, 5, 6, 4, 5, 5), 4, []int{3, 12}, [3]int{}},
		{exactly(10, 10, 5, 5, 4, 6, 5), 4, []int{6, 9}, [3]int{}},
		{exactly(10, 10, 5, 4, 6, 4, 6), 4, []int{3, 12}, [3]int{}},
		{exactly(10, 10, 1, 4, 5, 5, 6), 2, []int{6}, [3]int{2, 0, 0}},
		{exactly(10, 10, 1, 6, 5, 5, 4), 2, []int{6}, [3]int{2, 0, 0}},
		{exactly(10, 10, 1, 6, 4, 4, 5, 1, 4), 3, []int{26}, [3]int{3, 0, 0}},
		// The three of 3, 3 and 4 fit a bale, too, but would leave no other one.
		{exactly(10, 10, 3, 3, 3, 4, 7, 7, 6), 6, []int{9, 18, 36}, [3]int{}},
		{exactly(10, 10, 2, 3, 3, 4, 7, 7, 6), 4, []int{9, 18}, [3]int{2, 0, 0}},
		{exactly(10, 10, 1, 3, 3, 4, 7, 7, 6), 3, []int{7}, [3]int{3, 0, 0}},
		// As many as there can be, with one too many and one too light.
		{exactly(20, 40, 5, 20, 20, 20, 20, 20, 20, 20, 20, 20, 20), 10, []int{3, 12, 48, 192, 768}, [3]int{}},
		{exactly(20, 39, 5, 20, 20, 20, 20, 20, 20, 20, 20, 20, 20), 5, []int{1, 2, 4, 8, 16}, [3]int{5, 0, 0}},
		{exactly(200, 200, 1, 20, 20, 20, 20, 20, 20, 20, 20, 20, 20), 10, []int{1023}, [3]int{}},
		{exactly(200, 200, 1, 20, 20, 20, 20, 20, 20, 20, 20, 20, 19), 0, nil, [3]int{10, 0, 0}},
		{exactly(1, 200, 5, 20, 20, 20, 20, 20, 20, 20, 20, 20, 20), 10, []int{1023}, [3]int{}},
	} {
		fleeces, bales, e := press.Most(x.p)
		if fleeces != x.fleeces || bales != len(x.plan) || e != api.OK {
			t.Error(i, fleeces, bales, e, "want", x.fleeces, len(x.plan))
		}
		if got, e := press.Plan(x.p); !slices.Equal(got, x.plan) || e != api.OK {
			t.Error(i, got, e, "want", x.plan)
		}
		if got, e := press.Wait(x.p); got != x.wait || e != api.OK {
			t.Error(i, got, e, "want", x.wait)
		}
	}
}

// P8.6
func TestAdd(t *testing.T) {
	for i, x := range []struct {
		p             api.Press
		fleeces, want int
		e             api.Errno
	}{
		{pressP(), 5, 5, api.OK},
		{pressP(), 1, 1, api.OK},
		{pressP(), 8, 4, api.OK},
		{pressP(), 38, 0, api.ErrNone},
		// Others can fit already; they need one that leaves them fit.
		{pressP(), 3, 0, api.ErrNone},
		{between(pressP(), 9, 14), 3, 2, api.OK},
		{between(pressP(), 9, 13), 3, 5, api.OK},
		// One alone can fit a bale.
		{pressP(), 0, 0, api.ErrNone},
		{between(pressP(), 1, 12), 0, 0, api.OK},
		{between(pressP(), 5, 12), 0, 1, api.OK},
		{between(pressP(), 6, 12), 0, 3, api.OK},
		// One of the fleeces themselves makes none fit, nor does one of another line.
		{exactly(5, 5, 1, 5, 5), 1, 0, api.ErrNone},
		{exactly(10, 10, 1, 5, 5, 5), 1, 1, api.OK},
		{exactly(10, 10, 1, 5, 5, 5), 2, 0, api.OK},
		{exactly(10, 10, 1, 5, 5, 5), 4, 0, api.OK},
		{exactly(10, 10, 1, 5, 5, 5), 7, 0, api.ErrNone},
		{pressing(10, 10, 1, fleece(5, 5, 0), fleece(5, 5, 1), fleece(5, 5, 0)), 1, 2, api.OK},
		{between(pressP(), 1, 200), 9, 0, api.ErrNone},
		{pressing(1, 1, 1), 0, 0, api.ErrNone},
		// It has to fit in each truth.
		{pressing(10, 11, 1, fleece(5, 6, 0), fleece(5, 6, 0), fleece(5, 5, 0)), 1, 2, api.OK},
		{weighed(pressing(10, 11, 1, fleece(5, 6, 0), fleece(5, 6, 0), fleece(5, 5, 0)), bale(3, 1, 11)), 1, 1, api.OK},
		{pressQ(), 1, 1, api.OK},
		{pressQ(), 4, 0, api.OK},
		// How many bales can be pressed makes no difference.
		{with(pressP(), 0), 5, 5, api.OK},
		{exactly(200, 200, 1, 20, 20, 20, 20, 20, 20, 20, 20, 20, 20), 511, 9, api.OK},
		{exactly(200, 200, 1, 20, 20, 20, 20, 20, 20, 20, 20, 20, 20), 1022, 0, api.OK},
	} {
		if got, e := press.Add(x.p, x.fleeces); got != x.want || e != x.e {
			t.Error(i, got, e, "want", x.want, x.e)
		}
	}
}

// P8.7
func TestFalse(t *testing.T) {
	for i, x := range []struct {
		p    api.Press
		want int // none if there is no such bale
	}{
		{pressP(), 0},
		{pressQ(), 0},
		{pressR(), 1},
		{pressing(1, 1, 0), 0},
		// The fleeces 0, 1 and 2 weigh 12..14.
		{weighed(pressP(), bale(7, 1, 11)), 1},
		{weighed(pressP(), bale(7, 1, 12)), 0},
		{weighed(pressP(), bale(7, 13, 13)), 0},
		{weighed(pressP(), bale(7, 14, 200)), 0},
		{weighed(pressP(), bale(7, 15, 200)), 1},
		{weighed(pressP(), bale(1, 6, 6)), 1},
		// Those that are right are not named, whatever the others are.
		{weighed(pressP(), bale(7, 14, 14), bale(24, 8, 9)), 2},
		{weighed(pressP(), bale(24, 8, 9), bale(7, 14, 14)), 1},
		{weighed(pressP(), bale(7, 14, 14), bale(24, 8, 9), bale(32, 4, 4)), 6},
		{weighed(pressP(), bale(1, 3, 3), bale(2, 4, 4), bale(4, 2, 2), bale(8, 5, 5)), 15},
		{weighed(pressP(), bale(1, 3, 3), bale(2, 5, 5), bale(4, 4, 4), bale(8, 8, 8)), 9},
		{weighed(pressP(), bale(9, 9, 9)), 1},
		{greatest(), 0},
	} {
		got, e := press.False(x.p)
		if got != x.want || e != api.OK && x.want != 0 || e != api.ErrNone && x.want == 0 {
			t.Error(i, got, e, "want", x.want)
		}
	}
}
