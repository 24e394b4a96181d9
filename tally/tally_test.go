package tally_test

import (
	"testing"

	"shearworks/api"
	"shearworks/tally"
)

func span(lo, hi int) api.Span { return api.Span{Lo: lo, Hi: hi} }

func exactly(n int) api.Span { return span(n, n) }

// port, pen and fleeces are calls of so many sheep.
func port(at, lo, hi int) api.TallyCall {
	return api.TallyCall{Kind: api.TallyPort, At: at, Sheep: span(lo, hi)}
}

func pen(at, lo, hi int) api.TallyCall {
	return api.TallyCall{Kind: api.TallyPen, At: at, Sheep: span(lo, hi)}
}

func fleeces(lo, hi int) api.TallyCall {
	return api.TallyCall{Kind: api.TallyFleece, Sheep: span(lo, hi)}
}

// tallyT is the tally T of the chapter, with calls more.
func tallyT(more ...api.TallyCall) api.Tally {
	calls := []api.TallyCall{port(0, 6, 6), pen(0, 5, 5), port(2, 4, 5), fleeces(15, 16)}
	return api.Tally{
		Shearers: 3, Most: 10,
		Strays: []api.Span{span(0, 1), span(-1, 0)},
		Calls:  append(calls, more...),
	}
}

func tallyK() api.Tally { return tallyT(pen(2, 3, 3)) }

func tallyN() api.Tally { return tallyT(pen(2, 3, 3), port(1, 8, 8)) }

// alone is a tally of one shearer.
func alone(most int, calls ...api.TallyCall) api.Tally {
	return api.Tally{Shearers: 1, Most: most, Calls: calls}
}

// two is a tally of two shearers, each of whom can have shorn 20.
func two(strays api.Span, calls ...api.TallyCall) api.Tally {
	return api.Tally{Shearers: 2, Most: 20, Strays: []api.Span{strays}, Calls: calls}
}

// row is a tally of so many shearers with strays that are all alike.
func row(shearers, most int, strays api.Span, calls ...api.TallyCall) api.Tally {
	t := api.Tally{Shearers: shearers, Most: most, Calls: calls}
	for range shearers - 1 {
		t.Strays = append(t.Strays, strays)
	}
	return t
}

// P5.1
func TestShorn(t *testing.T) {
	for i, x := range []struct {
		t       api.Tally
		shearer int
		want    api.Span
	}{
		{tallyT(), 0, exactly(6)},
		{tallyT(), 1, span(4, 6)},
		{tallyT(), 2, span(4, 5)},
		{tallyK(), 1, span(5, 6)},
		{tallyK(), 2, exactly(4)},
		// Without calls from none to Most, but that as many as go out of a pen are in it.
		{alone(60), 0, span(0, 60)},
		{alone(0), 0, exactly(0)},
		{two(span(-3, 3)), 1, span(0, 20)},
		{two(span(2, 3)), 0, span(2, 20)},
		{two(span(2, 3)), 1, span(0, 20)},
		{two(span(-3, -1)), 0, span(0, 20)},
		{two(span(-3, -1)), 1, span(1, 20)},
		{row(5, 60, span(3, 3)), 0, span(3, 60)},
		{row(5, 60, span(3, 3)), 1, span(0, 60)},
		{row(5, 60, span(3, 3)), 4, span(0, 60)},
		{row(5, 60, span(-3, -3)), 4, span(3, 60)},
		// By a porthole, a pen, or fleeces.
		{two(span(-1, 2), port(0, 7, 9)), 0, span(7, 9)},
		{two(span(-1, 2), pen(0, 7, 9)), 0, span(6, 11)},
		{two(span(-1, 2), pen(1, 7, 9)), 1, span(5, 10)},
		{two(span(-1, 2), fleeces(33, 35)), 0, span(13, 20)},
		{two(span(-1, 2), fleeces(3, 5)), 0, span(0, 5)},
		{two(span(-1, 2), fleeces(3, 5), port(1, 2, 20)), 0, span(0, 3)},
		// What is called beyond what can be says no more than that.
		{alone(20, port(0, 15, 300)), 0, span(15, 20)},
		{alone(20, fleeces(0, 300), pen(0, 0, 20)), 0, span(0, 20)},
		// A pen tells of the shearers on both sides of it, and so on.
		{row(3, 20, span(0, 1), pen(0, 5, 5), pen(1, 5, 5), pen(2, 5, 5), fleeces(15, 15), port(2, 5, 5)), 0, span(5, 6)},
		{row(3, 20, span(0, 1), pen(0, 5, 5), pen(1, 5, 5), pen(2, 5, 5), port(2, 4, 4), port(0, 6, 6)), 1, exactly(5)},
		{row(3, 20, span(0, 1), pen(0, 5, 5), pen(1, 5, 5), pen(2, 5, 5), port(2, 5, 5), port(0, 6, 6)), 1, exactly(4)},
	} {
		if got, e := tally.Shorn(x.t, x.shearer); got != x.want || e != api.OK {
			t.Error(i, got, e, "want", x.want)
		}
	}
}

// P5.1
func TestPen(t *testing.T) {
	for i, x := range []struct {
		t    api.Tally
		pen  int
		want api.Span
	}{
		{tallyT(), 0, exactly(5)},
		{tallyT(), 1, span(5, 8)},
		{tallyT(), 2, span(3, 5)},
		{tallyK(), 1, span(7, 8)},
		{tallyK(), 2, exactly(3)},
		{alone(60), 0, span(0, 60)},
		{alone(60, port(0, 5, 7), fleeces(6, 9)), 0, span(6, 7)},
		// More can be in a pen than its shearer can have shorn, and never fewer than 0.
		{two(span(-3, 3)), 0, span(0, 23)},
		{two(span(-3, 3)), 1, span(0, 23)},
		{two(span(1, 3)), 0, span(0, 19)},
		{two(span(1, 3)), 1, span(1, 23)},
		{row(3, 20, span(-3, 3)), 1, span(0, 26)},
		{row(3, 20, span(3, 3)), 1, span(0, 20)},
		{row(5, 60, span(-3, 3)), 2, span(0, 66)},
		{two(span(1, 3), port(0, 2, 2)), 0, span(0, 1)},
		{two(span(1, 3), port(0, 2, 2), port(1, 0, 0)), 1, span(1, 2)},
		{two(span(1, 3), fleeces(2, 2), pen(0, 0, 1)), 1, span(1, 2)},
	} {
		if got, e := tally.Pen(x.t, x.pen); got != x.want || e != api.OK {
			t.Error(i, got, e, "want", x.want)
		}
	}
}

// P5.1
func TestStray(t *testing.T) {
	for i, x := range []struct {
		t    api.Tally
		pen  int
		want api.Span
	}{
		{tallyT(), 0, exactly(1)},
		{tallyT(), 1, span(-1, 0)},
		{tallyK(), 1, exactly(-1)},
		{two(span(-3, 3)), 0, span(-3, 3)},
		{two(span(-2, 1)), 0, span(-2, 1)},
		{two(span(-2, 1), port(0, 9, 9), pen(0, 9, 9)), 0, exactly(0)},
		{two(span(-2, 1), port(1, 9, 9), pen(1, 8, 9)), 0, span(-1, 0)},
		{two(span(-2, 1), fleeces(9, 9), port(1, 3, 3), pen(0, 7, 8)), 0, span(-2, -1)},
		// No more can go from a pen than there are.
		{two(span(1, 3), port(0, 2, 2)), 0, span(1, 2)},
		{two(span(-3, 3), port(0, 1, 1), port(1, 2, 2)), 0, span(-2, 1)},
		{row(3, 2, span(-3, 3), port(0, 2, 2), port(1, 0, 0), port(2, 2, 2)), 0, span(-2, 2)},
		{row(3, 2, span(-3, 3), port(0, 2, 2), port(1, 0, 0), port(2, 2, 2)), 1, span(-2, 2)},
		{row(3, 2, span(-3, 3), port(0, 2, 2), port(1, 0, 0), port(2, 0, 0)), 1, span(0, 2)},
		{row(5, 60, span(-3, 3)), 3, span(-3, 3)},
	} {
		if got, e := tally.Stray(x.t, x.pen); got != x.want || e != api.OK {
			t.Error(i, got, e, "want", x.want)
		}
	}
}

// P5.2
func TestTogether(t *testing.T) {
	for i, x := range []struct {
		t           api.Tally
		first, last int
		want        api.Span
	}{
		{tallyT(), 0, 2, span(15, 16)},
		{tallyT(), 1, 2, span(9, 10)},
		{tallyT(), 0, 1, span(10, 12)},
		{tallyT(), 1, 1, span(4, 6)},
		{tallyK(), 1, 2, span(9, 10)},
		{alone(7), 0, 0, span(0, 7)},
		{row(5, 60, span(-3, 3)), 0, 4, span(0, 300)},
		{row(5, 60, span(-3, 3)), 1, 3, span(0, 180)},
		{row(5, 60, span(-3, 3), fleeces(290, 300)), 1, 3, span(170, 180)},
		{row(5, 60, span(3, 3)), 0, 4, span(3, 300)},
		{row(5, 60, span(-3, -3)), 0, 3, span(0, 240)},
		// Together they are known better than each one is: the pens 0 and 1 lose no more than can go to the pen 2.
		{row(3, 20, span(-1, 1), pen(0, 9, 9), pen(1, 9, 9)), 0, 1, span(17, 19)},
		{row(3, 20, span(-1, 1), pen(0, 9, 9), pen(1, 9, 9)), 0, 0, span(8, 10)},
		{row(3, 20, span(-1, 1), pen(0, 9, 9), pen(1, 9, 9)), 1, 1, span(7, 11)},
		{row(3, 20, span(-1, 1), pen(0, 9, 9), pen(1, 9, 9), pen(2, 9, 9)), 0, 2, exactly(27)},
	} {
		if got, e := tally.Together(x.t, x.first, x.last); got != x.want || e != api.OK {
			t.Error(i, got, e, "want", x.want)
		}
	}
}

// P5.3
func TestFits(t *testing.T) {
	for i, x := range []struct {
		t    api.Tally
		call api.TallyCall
		want int
	}{
		{tallyT(), pen(1, 5, 8), api.TallyAlways},
		{tallyT(), pen(1, 0, 300), api.TallyAlways},
		{tallyT(), pen(1, 5, 7), api.TallyPerhaps},
		{tallyT(), pen(1, 6, 8), api.TallyPerhaps},
		{tallyT(), pen(1, 5, 6), api.TallyPerhaps},
		{tallyT(), pen(1, 8, 300), api.TallyPerhaps},
		{tallyT(), pen(1, 0, 5), api.TallyPerhaps},
		{tallyT(), pen(1, 9, 9), api.TallyNever},
		{tallyT(), pen(1, 9, 300), api.TallyNever},
		{tallyT(), pen(1, 0, 4), api.TallyNever},
		{tallyT(), port(0, 6, 6), api.TallyAlways},
		{tallyT(), port(1, 4, 6), api.TallyAlways},
		{tallyT(), port(1, 5, 5), api.TallyPerhaps},
		{tallyT(), port(2, 6, 9), api.TallyNever},
		{tallyT(), fleeces(15, 16), api.TallyAlways},
		{tallyT(), fleeces(16, 17), api.TallyPerhaps},
		{tallyT(), fleeces(17, 17), api.TallyNever},
		{alone(60), fleeces(0, 60), api.TallyAlways},
		{alone(60), pen(0, 0, 59), api.TallyPerhaps},
		{alone(60), port(0, 61, 300), api.TallyNever},
		// One call more than there can be in a tally.
		{tallyT(port(0, 0, 9), port(0, 0, 9), port(0, 0, 9), pen(2, 3, 3)), port(1, 5, 6), api.TallyAlways},
		{tallyT(port(0, 0, 9), port(0, 0, 9), port(0, 0, 9), pen(2, 3, 3)), port(1, 4, 4), api.TallyNever},
		{tallyT(port(0, 0, 9), port(0, 0, 9), port(0, 0, 9), pen(2, 3, 3)), port(1, 4, 5), api.TallyPerhaps},
	} {
		if got, e := tally.Fits(x.t, x.call); got != x.want || e != api.OK {
			t.Error(i, got, e, "want", x.want)
		}
	}
}

// wrongs is what is said of calls that cannot all be right.
type wrongs struct {
	many, calls, suspects int
	e                     api.Errno
	clash                 int
	clashes               api.Errno
}

func wrongsOf(t api.Tally) (w wrongs) {
	var f api.Errno
	w.many, w.calls, w.e = tally.False(t)
	w.suspects, f = tally.Suspects(t)
	if f != w.e {
		w.e = -1
	}
	w.clash, w.clashes = tally.Clash(t)
	return w
}

// P5.4, P5.5, P5.6 and P4
func TestWrongs(t *testing.T) {
	right := wrongs{e: api.OK, clashes: api.ErrNone}
	for i, x := range []struct {
		t    api.Tally
		want wrongs
	}{
		{tallyT(), right},
		{tallyK(), right},
		{tallyN(), wrongs{1, 8, 40, api.OK, 45, api.OK}},
		{alone(60), right},
		// One that is wrong by itself.
		{alone(60, fleeces(61, 300)), wrongs{1, 1, 1, api.OK, 1, api.OK}},
		{alone(60, port(0, 3, 3), pen(0, 61, 61), fleeces(3, 4)), wrongs{1, 2, 2, api.OK, 2, api.OK}},
		{alone(60, fleeces(70, 80), port(0, 61, 61), pen(0, 3, 3)), wrongs{2, 3, 3, api.OK, 1, api.OK}},
		// Of two that clash either one can be false; of several the least numbers are named.
		{alone(60, port(0, 3, 3), pen(0, 4, 4)), wrongs{1, 1, 3, api.OK, 3, api.OK}},
		{alone(60, port(0, 3, 3), port(0, 3, 5), pen(0, 4, 4)), wrongs{1, 1, 5, api.OK, 5, api.OK}},
		{alone(60, port(0, 3, 3), pen(0, 4, 4), fleeces(3, 3)), wrongs{1, 2, 2, api.OK, 3, api.OK}},
		{alone(60, port(0, 3, 3), pen(0, 4, 4), fleeces(5, 5)), wrongs{2, 3, 7, api.OK, 3, api.OK}},
		{alone(60, fleeces(0, 60), pen(0, 5, 9), port(0, 3, 4), pen(0, 4, 5)), wrongs{1, 2, 6, api.OK, 6, api.OK}},
		{alone(60, port(0, 1, 1), port(0, 1, 1), pen(0, 2, 2), pen(0, 2, 2)), wrongs{2, 3, 15, api.OK, 5, api.OK}},
		{alone(60, port(0, 1, 1), port(0, 2, 2), port(0, 3, 3), port(0, 4, 4), port(0, 5, 5), port(0, 6, 6), port(0, 7, 7), port(0, 8, 8)), wrongs{7, 127, 255, api.OK, 3, api.OK}},
		// The fewest that must be false need not be of the fewest that clash.
		{two(exactly(0), port(0, 1, 1), port(1, 1, 1), fleeces(3, 3), pen(0, 1, 1)), wrongs{1, 2, 6, api.OK, 7, api.OK}},
		// Two pairs that have nothing to do with one another.
		{two(exactly(0), port(0, 1, 1), port(1, 5, 5), pen(0, 2, 2), pen(1, 6, 6)), wrongs{2, 3, 15, api.OK, 5, api.OK}},
		// There is none even without any call: the 1 to 3 that strayed cannot have been shorn, nor can 3 have gone both ways.
		{row(2, 0, span(1, 3)), wrongs{e: api.ErrClash, clashes: api.OK}},
		{row(2, 0, span(1, 3), fleeces(1, 1), port(0, 0, 0)), wrongs{e: api.ErrClash, clashes: api.OK}},
		{api.Tally{Shearers: 3, Most: 5, Strays: []api.Span{exactly(-3), exactly(3)}, Calls: []api.TallyCall{port(1, 5, 5)}}, wrongs{e: api.ErrClash, clashes: api.OK}},
		{api.Tally{Shearers: 3, Most: 6, Strays: []api.Span{exactly(-3), exactly(3)}, Calls: []api.TallyCall{port(1, 5, 5)}}, wrongs{1, 1, 1, api.OK, 1, api.OK}},
	} {
		if got := wrongsOf(x.t); got != x.want {
			t.Error(i, got, "want", x.want)
		}
	}
}

// P5.6: of five calls, each four of which can be right, all are named, and each can be the one that is false.
func TestClashOfFive(t *testing.T) {
	five := row(4, 20, span(0, 1), pen(0, 4, 4), pen(1, 4, 4), pen(2, 4, 4), port(3, 3, 4), fleeces(18, 300))
	if got, want := wrongsOf(five), (wrongs{1, 1, 31, api.OK, 31, api.OK}); got != want {
		t.Error(got, "want", want)
	}
	for left := range five.Calls {
		part := five
		part.Calls = append([]api.TallyCall{}, five.Calls[:left]...)
		part.Calls = append(part.Calls, five.Calls[left+1:]...)
		if got, e := tally.Clash(part); got != 0 || e != api.ErrNone {
			t.Error(left, got, e)
		}
	}
}
