package burr_test

import (
	"testing"

	"shearworks/api"
	"shearworks/burr"
)

func span(lo, hi int) api.Span { return api.Span{Lo: lo, Hi: hi} }

func bale(surely, perhaps int) api.BurrBale { return api.BurrBale{Surely: surely, Perhaps: perhaps} }

// of is a bale that holds a burr just if one of a set of mobs was in burrs.
func of(mobs int) api.BurrBale { return bale(mobs, mobs) }

func burry(number int) api.BurrTest { return api.BurrTest{Bale: number, Found: true} }

func free(number int) api.BurrTest { return api.BurrTest{Bale: number} }

// wool returns bales of which none was opened.
func wool(mobs int, burred api.Span, top int, bales ...api.BurrBale) api.Burr {
	return api.Burr{Mobs: mobs, Burred: burred, Bales: bales, Top: top}
}

func tested(b api.Burr, tests ...api.BurrTest) api.Burr {
	b.Tests = tests
	return b
}

// balesB, balesK, balesM and balesN are the bales of the chapter's examples.
func balesB() api.Burr { return wool(3, span(1, 1), 6, bale(1, 3), of(2), bale(0, 4)) }

func balesK() api.Burr { return tested(balesB(), free(2)) }

func balesM() api.Burr { return tested(balesB(), free(2), burry(1)) }

func balesN() api.Burr { return tested(balesB(), free(2), burry(1), burry(2)) }

// alike returns six bales, all of the top line.
func alike(mobs int, burred api.Span, b api.BurrBale) api.Burr {
	return wool(mobs, burred, 63, b, b, b, b, b, b)
}

// greatest is as much as there can be: five mobs, six bales, and six tests.
func greatest() api.Burr {
	b := wool(5, span(0, 5), 0b110101, bale(1, 3), bale(0, 31), of(4), bale(8, 24), bale(2, 19), of(0))
	return tested(b, free(0), burry(1), burry(1), free(4), free(5), burry(3))
}

// P7.1
func TestMobs(t *testing.T) {
	for i, x := range []struct {
		b    api.Burr
		want [2]int
	}{
		{balesB(), [2]int{0, 7}},
		{balesK(), [2]int{0, 7}}, // the mob 2 perhaps gave nothing to the bale 2
		{balesM(), [2]int{2, 2}},
		{wool(1, span(0, 0), 0), [2]int{0, 0}},
		{wool(1, span(0, 1), 0), [2]int{0, 1}},
		{wool(5, span(5, 5), 0), [2]int{31, 31}},
		{wool(5, span(4, 5), 0), [2]int{0, 31}},
		{wool(5, span(0, 0), 1, of(31)), [2]int{0, 0}},
		// A burr that was found can be of each mob that perhaps gave wool.
		{tested(wool(3, span(1, 1), 0, bale(0, 3)), burry(0)), [2]int{0, 3}},
		{tested(wool(3, span(2, 2), 0, bale(0, 1)), burry(0)), [2]int{1, 7}},
		{tested(wool(3, span(2, 2), 0, bale(0, 5), of(2)), burry(0), burry(1)), [2]int{2, 7}},
		// A bale without a burr frees those who surely gave wool, and no others.
		{tested(wool(3, span(0, 3), 0, bale(3, 7)), free(0)), [2]int{0, 4}},
		{tested(wool(3, span(2, 3), 0, bale(1, 7)), free(0)), [2]int{6, 6}},
		{tested(wool(3, span(2, 2), 0, of(1), of(2)), free(0)), [2]int{6, 6}},
		// Two bales say together what none of them says alone.
		{tested(wool(3, span(1, 1), 0, bale(0, 3), bale(0, 6)), burry(0), burry(1)), [2]int{2, 2}},
	} {
		if surely, perhaps, e := burr.Mobs(x.b); [2]int{surely, perhaps} != x.want || e != api.OK {
			t.Error(i, surely, perhaps, e, "want", x.want)
		}
	}
}

// P7.1
func TestBales(t *testing.T) {
	for i, x := range []struct {
		b    api.Burr
		want [2]int
	}{
		{balesB(), [2]int{0, 7}},
		{balesK(), [2]int{0, 3}},
		{balesM(), [2]int{2, 3}},
		{wool(5, span(0, 5), 0), [2]int{0, 0}},
		{wool(5, span(0, 0), 0, of(31)), [2]int{0, 0}},
		{wool(5, span(5, 5), 0, of(31), bale(1, 31), bale(0, 31), of(0)), [2]int{3, 7}},
		{wool(5, span(1, 5), 0, of(31), of(15)), [2]int{1, 3}},
		{wool(2, span(1, 1), 0, of(1), of(2), of(3), of(0)), [2]int{4, 7}},
		// It is as it was found, whoever gave wool.
		{tested(wool(2, span(2, 2), 0, bale(0, 3), bale(0, 3), bale(0, 3)), burry(0), free(1)), [2]int{1, 5}},
		// By the mobs one bale tells of others.
		{tested(wool(2, span(0, 2), 0, of(1), bale(1, 3), of(2)), burry(0)), [2]int{3, 7}},
		{tested(wool(2, span(0, 1), 0, of(1), bale(1, 3), of(2)), burry(0)), [2]int{3, 3}},
		{tested(wool(2, span(0, 2), 0, of(1), of(3), of(2)), free(1)), [2]int{0, 0}},
		{alike(5, span(5, 5), of(16)), [2]int{63, 63}},
		{alike(5, span(4, 5), of(16)), [2]int{0, 63}},
	} {
		if surely, perhaps, e := burr.Bales(x.b); [2]int{surely, perhaps} != x.want || e != api.OK {
			t.Error(i, surely, perhaps, e, "want", x.want)
		}
	}
}

// P7.2 and P7.3
func TestCleanAndPure(t *testing.T) {
	for i, x := range []struct {
		b           api.Burr
		clean, pure int
	}{
		{balesB(), api.BurrPerhaps, 0},
		{balesK(), api.BurrPerhaps, 4},
		{balesM(), api.BurrNever, 4},
		// A top line without bales is clean.
		{wool(5, span(5, 5), 0), api.BurrAlways, 0},
		{wool(5, span(5, 5), 0, of(31)), api.BurrAlways, 0},
		// Bales that are not of it make no difference, and are not returned.
		{wool(2, span(2, 2), 2, of(3), of(0), of(0)), api.BurrAlways, 2},
		{wool(2, span(2, 2), 5, of(3), of(0), of(0)), api.BurrNever, 4},
		{alike(5, span(0, 0), of(31)), api.BurrAlways, 63},
		{alike(5, span(0, 1), of(31)), api.BurrPerhaps, 0},
		{alike(5, span(1, 5), of(31)), api.BurrNever, 0},
		{alike(5, span(1, 5), bale(0, 31)), api.BurrPerhaps, 0},
		{alike(5, span(1, 5), of(0)), api.BurrAlways, 63},
		// None of its bales surely holds a burr, and yet one of them does.
		{wool(2, span(1, 1), 3, of(1), of(2)), api.BurrNever, 0},
		{wool(2, span(0, 1), 3, of(1), of(2)), api.BurrPerhaps, 0},
		// What was opened.
		{tested(wool(2, span(1, 2), 3, bale(0, 1), bale(0, 2)), free(0)), api.BurrPerhaps, 1},
		{tested(wool(2, span(1, 2), 3, bale(0, 1), bale(0, 2)), free(0), free(1)), api.BurrAlways, 3},
		{tested(wool(2, span(1, 2), 3, bale(0, 1), bale(0, 2)), free(0), burry(1)), api.BurrNever, 1},
		{tested(wool(2, span(1, 1), 3, of(1), of(2), of(1)), burry(2)), api.BurrNever, 2},
	} {
		if clean, e := burr.Clean(x.b); clean != x.clean || e != api.OK {
			t.Error(i, clean, e, "want", x.clean)
		}
		if pure, e := burr.Pure(x.b); pure != x.pure || e != api.OK {
			t.Error(i, pure, e, "want", x.pure)
		}
	}
}

// P7.4
func TestCount(t *testing.T) {
	for i, x := range []struct {
		b    api.Burr
		want int
	}{
		{balesB(), 5},
		{balesK(), 4},
		{balesM(), 2},
		{balesN(), 0},
		{wool(5, span(0, 5), 0), 32},
		{wool(5, span(2, 3), 0), 20},
		{wool(1, span(1, 1), 0), 1},
		// Truths differ in their mobs, or in their bales.
		{alike(5, span(0, 5), bale(0, 31)), 1 + 31*64},
		{alike(5, span(1, 5), bale(0, 31)), 31 * 64},
		{alike(5, span(0, 5), of(31)), 32},
		{alike(5, span(0, 5), bale(1, 31)), 1 + 15*64 + 16},
		{tested(alike(5, span(0, 5), bale(0, 31)), burry(0)), 31 * 32},
		{tested(alike(5, span(0, 5), bale(0, 31)), free(0)), 1 + 31*32},
		{tested(alike(5, span(0, 5), bale(0, 31)), burry(0), burry(0)), 31 * 32},
		{tested(alike(5, span(0, 5), bale(0, 31)), burry(5), free(4), burry(3), free(2), burry(1), free(0)), 31},
		{tested(alike(5, span(0, 5), bale(0, 31)), burry(0), free(0)), 0},
		{tested(wool(2, span(1, 2), 0, of(3)), free(0)), 0},
		{tested(wool(2, span(1, 2), 0, of(0)), burry(0)), 0},
		{greatest(), 6}, // neither the mob 0 nor 1 was in burrs, but 3, or 4, or both were, with the mob 2 or without it
	} {
		if got, e := burr.Count(x.b); got != x.want || e != api.OK {
			t.Error(i, got, e, "want", x.want)
		}
	}
}

// P7.5
func TestOpen(t *testing.T) {
	for i, x := range []struct {
		b           api.Burr
		many, bales int
	}{
		{balesB(), 2, 6},
		{balesK(), 1, 2},
		{balesM(), 0, 0},
		{wool(5, span(0, 5), 0), 0, 0},
		{wool(2, span(0, 2), 0, of(1), of(2)), 0, 0},
		{wool(2, span(0, 2), 1, of(1), of(2)), 1, 1},
		{wool(2, span(0, 2), 2, of(1), of(2)), 1, 2},
		{wool(2, span(0, 2), 3, of(1), of(2)), 2, 3},
		// One of both tells of the other one.
		{wool(2, span(1, 1), 3, of(1), of(2)), 1, 1},
		{wool(3, span(1, 1), 7, of(1), of(2), of(4)), 2, 3},
		// A bale that is not of the top line tells of it, and has the lesser number.
		{wool(2, span(0, 2), 2, of(1), of(1), of(2)), 1, 1},
		{wool(2, span(1, 1), 4, of(0), of(2), of(1)), 1, 2},
		// One that is not of it tells of two that are.
		{wool(2, span(0, 1), 3, bale(0, 2), of(1), of(1)), 2, 3},
		{wool(3, span(0, 3), 6, of(1), of(1), of(1)), 1, 1},
		// Two bales by which a third one is known that is not opened; fewer go before a lesser number.
		{wool(3, span(0, 3), 4, of(1), of(2), of(3)), 1, 4},
		{wool(3, span(0, 3), 7, of(1), of(2), of(3)), 2, 3},
		{alike(5, span(0, 5), of(31)), 1, 1},
		{alike(5, span(1, 5), of(31)), 0, 0},
		{alike(5, span(0, 5), bale(0, 31)), 6, 63},
		{alike(1, span(0, 1), bale(0, 1)), 6, 63},
		// What was opened need not be again, whatever was found.
		{tested(alike(5, span(0, 5), bale(0, 31)), burry(0), free(3)), 4, 54},
		{tested(wool(2, span(1, 1), 3, of(1), of(2), bale(0, 3)), burry(2)), 1, 1},
		{tested(wool(2, span(1, 1), 3, of(1), of(2), bale(0, 1)), burry(2)), 0, 0},
	} {
		if many, bales, e := burr.Open(x.b); many != x.many || bales != x.bales || e != api.OK {
			t.Error(i, many, bales, e, "want", x.many, x.bales)
		}
	}
}

// P7.6
func TestNext(t *testing.T) {
	for i, x := range []struct {
		b          api.Burr
		bale, left int
	}{
		{balesB(), 0, 3},
		{balesK(), 0, 2},
		{balesM(), 0, 1},
		{wool(2, span(1, 1), 0, of(0)), 0, 2},
		{wool(2, span(1, 1), 0, of(0), of(1)), 1, 1},
		{wool(2, span(0, 2), 0, of(0), of(3), of(1), of(2)), 2, 2},
		// The top line makes no difference.
		{wool(2, span(1, 1), 1, of(0), of(1)), 1, 1},
		// A burr, or none, leaves more.
		{wool(3, span(1, 1), 0, of(1)), 0, 2},
		{wool(3, span(1, 1), 0, of(3)), 0, 2},
		{wool(4, span(1, 1), 0, of(1), of(7), of(3)), 2, 2},
		{wool(4, span(1, 1), 0, of(7), of(1)), 0, 3},
		{wool(4, span(1, 1), 0, of(1), of(7)), 0, 3},
		// Of several the first one, also if it was opened.
		{alike(5, span(0, 5), bale(0, 31)), 0, 1 + 31*32},
		{tested(wool(1, span(1, 1), 0, bale(0, 1), bale(0, 1), bale(0, 1)), burry(0)), 1, 2},
		{tested(wool(1, span(1, 1), 0, bale(0, 1), bale(0, 1)), burry(0), free(1)), 0, 1},
		{wool(1, span(0, 0), 0, of(1), of(1)), 0, 1},
	} {
		if bale, left, e := burr.Next(x.b); bale != x.bale || left != x.left || e != api.OK {
			t.Error(i, bale, left, e, "want", x.bale, x.left)
		}
	}
}

// P7.7 and P4
func TestClash(t *testing.T) {
	one := wool(2, span(0, 2), 0, of(1), of(2), of(3))
	for i, x := range []struct {
		b    api.Burr
		want int
	}{
		{balesN(), 5},
		{tested(one, burry(0), free(0)), 3},
		{tested(one, free(1), burry(0), free(1), free(0)), 10},
		// One test can be wrong by itself.
		{tested(wool(2, span(0, 2), 0, of(0)), burry(0)), 1},
		{tested(wool(2, span(1, 2), 0, of(3)), free(0)), 1},
		{tested(wool(2, span(0, 0), 0, of(3)), burry(0)), 1},
		// Fewer tests go before a lesser number.
		{tested(wool(2, span(1, 2), 0, of(1), of(3)), burry(0), free(0), free(1)), 4},
		{tested(one, burry(0), free(2), free(0), burry(2)), 3},
		{tested(one, free(0), free(1), burry(2), burry(0)), 9},
		// All three are needed.
		{tested(one, free(0), free(1), burry(2)), 7},
		{tested(wool(3, span(2, 3), 0, of(1), of(2), of(4)), free(0), burry(1), free(2)), 5},
		{tested(wool(3, span(1, 1), 0, of(1), of(2), of(4)), free(0), burry(1), burry(2)), 6},
		// Of as few the least number is meant.
		{tested(one, free(0), free(0), burry(0), burry(0)), 5},
		{tested(wool(2, span(0, 0), 0, of(1), of(2)), free(0), free(1), burry(1), burry(0)), 4},
		{tested(alike(5, span(5, 5), of(31)), free(5), free(4), free(3), free(2), free(1), free(0)), 1},
		// Six tests of which no five clash.
		{tested(wool(5, span(0, 5), 0, of(1), of(2), of(4), of(8), of(16), of(31)), free(0), free(1), free(2), free(3), free(4), burry(5)), 63},
	} {
		if got, e := burr.Clash(x.b); got != x.want || e != api.OK {
			t.Error(i, got, e, "want", x.want)
		}
	}
	for i, b := range []api.Burr{balesB(), balesK(), balesM(), one, wool(1, span(1, 1), 0), alike(5, span(0, 0), of(31)), greatest()} {
		if got, e := burr.Clash(b); got != 0 || e != api.ErrNone {
			t.Error(i, got, e)
		}
	}
}
