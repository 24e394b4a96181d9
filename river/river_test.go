package river_test

import (
	"slices"
	"testing"

	"shearworks/api"
	"shearworks/river"
)

func span(lo, hi int) api.Span { return api.Span{Lo: lo, Hi: hi} }

func exactly(n int) api.Span { return span(n, n) }

// fresh comes from a day to another one, and brings from lo to hi.
func fresh(from, to, lo, hi int) api.RiverFresh {
	return api.RiverFresh{Days: span(from, to), Rise: span(lo, hi)}
}

func look(day, lo, hi int) api.RiverLook { return api.RiverLook{Day: day, Depth: span(lo, hi)} }

// riverR is the river R of the chapter, with looks: none, that of riverK, or those of riverN.
func riverR(looks ...api.RiverLook) api.River {
	return api.River{
		Depth: span(10, 11), Fall: span(1, 2), Days: 5,
		Freshes: []api.RiverFresh{fresh(2, 3, 4, 5)},
		Looks:   looks,
	}
}

func riverK() api.River { return riverR(look(2, 6, 9)) }

func riverN() api.River { return riverR(look(2, 6, 9), look(3, 8, 8), look(4, 7, 9)) }

// shallow is dry on the day 2 at the latest, and two freshes can come on one day.
func shallow(looks ...api.RiverLook) api.River {
	return api.River{
		Depth: span(3, 4), Fall: exactly(3), Days: 4,
		Freshes: []api.RiverFresh{fresh(2, 3, 2, 2), fresh(3, 4, 5, 6)},
		Looks:   looks,
	}
}

// plain is a river to which no fresh comes.
func plain(depth, fall api.Span, days int, looks ...api.RiverLook) api.River {
	return api.River{Depth: depth, Fall: fall, Days: days, Looks: looks}
}

// three has looks of which each two can be right, but not all of them.
func three() api.River {
	return plain(span(10, 11), span(0, 1), 4, look(0, 11, 11), look(1, 0, 10), look(4, 8, 99))
}

// full is as deep as a river can be at all: 60, and on the last day three freshes of 20.
func full() api.River {
	f := fresh(7, 10, 17, 20)
	return api.River{Depth: span(56, 60), Days: 10, Freshes: []api.RiverFresh{f, f, f}}
}

// P9.1
func TestDepth(t *testing.T) {
	for i, x := range []struct {
		r    api.River
		want []api.Span // by day
	}{
		{riverR(), []api.Span{span(10, 11), span(8, 10), span(6, 14), span(8, 13), span(6, 12), span(4, 11)}},
		{riverK(), []api.Span{span(10, 11), span(8, 10), span(6, 9), span(8, 13), span(6, 12), span(4, 11)}},
		// A look tells of the days before it too, and of a span it can tell one end.
		{riverR(look(5, 11, 200)), []api.Span{exactly(11), exactly(10), span(9, 14), exactly(13), exactly(12), exactly(11)}},
		{riverR(look(0, 0, 10)), []api.Span{exactly(10), span(8, 9), span(6, 13), span(8, 12), span(6, 11), span(4, 10)}},
		{riverR(look(2, 0, 6)), []api.Span{exactly(10), exactly(8), exactly(6), span(8, 9), span(6, 7), span(4, 5)}},
		{riverR(look(2, 9, 10)), []api.Span{span(10, 11), span(8, 10), span(9, 10), span(8, 13), span(6, 12), span(4, 11)}},
		// Two looks on one day: the depth is in both.
		{plain(span(10, 14), exactly(0), 1, look(1, 11, 13), look(1, 12, 99)), []api.Span{span(12, 13), span(12, 13)}},
		// It falls to 0 and not below, and rises only then; what a fresh brings falls from the day after it on.
		{shallow(), []api.Span{span(3, 4), span(0, 1), span(0, 2), span(0, 8), span(2, 6)}},
		{shallow(look(2, 1, 99)), []api.Span{span(3, 4), span(0, 1), exactly(2), span(0, 6), span(2, 6)}},
		{shallow(look(2, 0, 0)), []api.Span{span(3, 4), span(0, 1), exactly(0), span(2, 8), span(4, 6)}},
		{shallow(look(3, 7, 8)), []api.Span{span(3, 4), span(0, 1), exactly(0), span(7, 8), span(4, 5)}},
		{plain(span(3, 7), exactly(5), 3), []api.Span{span(3, 7), span(0, 2), exactly(0), exactly(0)}},
		{plain(exactly(0), exactly(5), 1), []api.Span{exactly(0), exactly(0)}},
		{plain(span(56, 60), span(0, 2), 2), []api.Span{span(56, 60), span(54, 60), span(52, 60)}},
		{full(), append(slices.Repeat([]api.Span{span(56, 60)}, 7), span(56, 120), span(56, 120), span(56, 120), span(107, 120))},
	} {
		for day, want := range x.want {
			if got, e := river.Depth(x.r, day); got != want || e != api.OK {
				t.Error(i, day, got, e, "want", want)
			}
		}
	}
}

// P9.1
func TestFall(t *testing.T) {
	for i, x := range []struct {
		r    api.River
		want api.Span
	}{
		{riverR(), span(1, 2)},
		{riverK(), span(1, 2)},
		{riverR(look(5, 11, 200)), exactly(1)},
		{riverR(look(1, 8, 8)), exactly(2)},
		{riverR(look(1, 9, 9)), span(1, 2)},
		{shallow(), exactly(3)},
		{plain(exactly(9), span(0, 2), 1), span(0, 2)},
		{plain(exactly(9), span(0, 2), 1, look(1, 8, 99)), span(0, 1)},
		{plain(exactly(9), span(0, 2), 1, look(1, 0, 8)), span(1, 2)},
		// Only a fall of 0 or of 2 suits; the one between them is within the span too.
		{api.River{Depth: exactly(9), Fall: span(0, 2), Days: 2, Freshes: []api.RiverFresh{fresh(1, 1, 1, 1), fresh(1, 2, 2, 2)}, Looks: []api.RiverLook{look(1, 10, 10)}}, span(0, 2)},
		// A river that is dry all the time can fall by any number.
		{plain(exactly(0), span(3, 5), 10, look(10, 0, 0)), span(3, 5)},
		{plain(exactly(10), span(3, 5), 3, look(3, 0, 0)), span(4, 5)},
	} {
		if got, e := river.Fall(x.r); got != x.want || e != api.OK {
			t.Error(i, got, e, "want", x.want)
		}
	}
}

// P9.2
func TestFresh(t *testing.T) {
	for i, x := range []struct {
		r           api.River
		fresh, want int
	}{
		{riverR(), 0, 12},
		{riverK(), 0, 8},
		{riverR(look(2, 10, 20)), 0, 4},
		{riverR(look(2, 9, 10)), 0, 12},
		{riverR(look(1, 8, 8)), 0, 12},
		{shallow(), 0, 12},
		{shallow(), 1, 24},
		{shallow(look(2, 2, 2)), 0, 4},
		{shallow(look(2, 2, 2)), 1, 24},
		{shallow(look(3, 2, 2)), 0, 8},
		{shallow(look(3, 2, 2)), 1, 16},
		{shallow(look(3, 5, 5)), 0, 4}, // it has run off before the other one comes
		{shallow(look(3, 5, 5)), 1, 8},
		{shallow(look(3, 7, 8)), 0, 8}, // both come on one day
		{shallow(look(3, 7, 8)), 1, 8},
		{shallow(look(3, 0, 0)), 0, 4},
		{shallow(look(3, 0, 0)), 1, 16},
		{full(), 0, 1920},
		{full(), 2, 1920},
		{api.River{Days: 10, Freshes: []api.RiverFresh{fresh(1, 1, 1, 1), fresh(10, 10, 20, 20)}}, 0, 2},
		{api.River{Days: 10, Freshes: []api.RiverFresh{fresh(1, 1, 1, 1), fresh(10, 10, 20, 20)}}, 1, 1024},
		// It has run off, or has not come yet.
		{api.River{Fall: exactly(2), Days: 3, Freshes: []api.RiverFresh{fresh(1, 3, 2, 2)}, Looks: []api.RiverLook{look(2, 0, 0)}}, 0, 10},
		// The one or the other has come, and then both.
		{api.River{Depth: exactly(9), Days: 4, Freshes: []api.RiverFresh{fresh(1, 4, 3, 3), fresh(2, 3, 3, 3)}, Looks: []api.RiverLook{look(2, 12, 12)}}, 0, 30},
		{api.River{Depth: exactly(9), Days: 4, Freshes: []api.RiverFresh{fresh(1, 4, 3, 3), fresh(2, 3, 3, 3)}, Looks: []api.RiverLook{look(2, 12, 12), look(3, 12, 12)}}, 0, 16},
	} {
		if got, e := river.Fresh(x.r, x.fresh); got != x.want || e != api.OK {
			t.Error(i, got, e, "want", x.want)
		}
	}
}

// P9.3
func TestBears(t *testing.T) {
	for i, x := range []struct {
		r          api.River
		draws, day int
		want       int
	}{
		{riverR(), 8, 1, api.RiverAlways},
		{riverR(), 8, 2, api.RiverPerhaps},
		{riverR(), 15, 2, api.RiverNever},
		{riverR(), 8, 3, api.RiverAlways},
		{riverR(), 14, 2, api.RiverPerhaps}, // as deep as it draws is deep enough
		{riverR(), 6, 2, api.RiverAlways},
		{riverR(), 7, 2, api.RiverPerhaps},
		{riverK(), 9, 2, api.RiverPerhaps},
		{riverK(), 10, 2, api.RiverNever},
		{riverR(), 0, 5, api.RiverAlways},
		{shallow(), 0, 2, api.RiverAlways}, // a boat that draws nothing goes on a dry river
		{shallow(), 1, 1, api.RiverPerhaps},
		{shallow(), 2, 1, api.RiverNever},
		{shallow(), 2, 4, api.RiverAlways},
		{full(), 107, 10, api.RiverAlways},
		{full(), 120, 10, api.RiverPerhaps},
		{full(), 121, 10, api.RiverNever},
		{full(), api.RiverMost, 0, api.RiverNever},
	} {
		if got, e := river.Bears(x.r, x.draws, x.day); got != x.want || e != api.OK {
			t.Error(i, got, e, "want", x.want)
		}
	}
}

// P9.4 to P9.6
func TestDays(t *testing.T) {
	none := failed(api.ErrNone)
	for i, x := range []struct {
		r               api.River
		draws           int
		surely, perhaps int
		until, last     result
	}{
		{riverR(), 8, 11, 63, day(1), day(5)},
		{riverR(), 12, 0, 28, none, day(4)},
		{riverR(), 15, 0, 0, none, none},
		{riverR(), 14, 0, 4, none, day(2)},
		{riverR(), 10, 1, 63, day(0), day(5)},
		{riverR(), 11, 0, 61, none, day(5)}, // no day 1, but later ones
		{riverR(), 4, 63, 63, day(5), day(5)},
		{riverR(), 6, 31, 63, day(4), day(5)},
		{riverR(), 0, 63, 63, day(5), day(5)},
		{riverR(), api.RiverMost, 0, 0, none, none},
		{riverK(), 10, 1, 59, day(0), day(5)},
		{shallow(), 3, 1, 25, day(0), day(4)},
		{shallow(), 2, 17, 29, day(0), day(4)}, // surely on the last day, but not on those between
		{shallow(), 4, 0, 25, none, day(4)},
		{shallow(), 7, 0, 8, none, day(3)},
		{plain(exactly(5), exactly(1), 1), 5, 1, 1, day(0), day(0)},
		{plain(exactly(5), exactly(1), 1), 4, 3, 3, day(1), day(1)},
		{plain(exactly(5), exactly(1), 10), 1, 31, 31, day(4), day(4)},
		{api.River{Days: 10, Freshes: []api.RiverFresh{fresh(10, 10, 20, 20)}}, 20, 1024, 1024, none, day(10)},
	} {
		surely, perhaps, e := river.Days(x.r, x.draws)
		if surely != x.surely || perhaps != x.perhaps || e != api.OK {
			t.Error(i, surely, perhaps, e, "want", x.surely, x.perhaps)
		}
		if got := fromInt(river.Until(x.r, x.draws)); got != x.until {
			t.Error(i, "until", got, "want", x.until)
		}
		if got := fromInt(river.Last(x.r, x.draws)); got != x.last {
			t.Error(i, "last", got, "want", x.last)
		}
	}
}

// day is what is returned with a day.
func day(n int) result { return fromInt(n, api.OK) }

// P9.7
func TestClash(t *testing.T) {
	none := failed(api.ErrNone)
	for i, x := range []struct {
		r    api.River
		want result
	}{
		{riverR(), none},
		{riverK(), none},
		{riverN(), fromInt(6, api.OK)},
		{three(), fromInt(7, api.OK)},
		{riverR(look(0, 12, 20), look(2, 6, 9)), fromInt(1, api.OK)},
		// One look that cannot be right at all is fewer than two that clash.
		{riverR(look(0, 10, 10), look(0, 11, 11), look(2, 15, 99)), fromInt(4, api.OK)},
		{riverR(look(2, 10, 14), look(1, 0, 20), look(2, 6, 9)), fromInt(5, api.OK)},
		// Of several that are as few the least number: 0 1 before 0 2, 0 2 before 1 2, and 1 2 before 0 3.
		{riverR(look(0, 10, 10), look(0, 11, 11), look(0, 11, 12)), fromInt(3, api.OK)},
		{riverR(look(0, 10, 10), look(0, 10, 10), look(0, 11, 11)), fromInt(5, api.OK)},
		{api.River{Depth: span(4, 5), Fall: exactly(5), Days: 1, Freshes: []api.RiverFresh{fresh(1, 1, 1, 2)}, Looks: []api.RiverLook{look(0, 4, 4), look(1, 1, 1), look(1, 2, 2), look(0, 5, 5)}}, fromInt(6, api.OK)},
		{riverR(look(0, 12, 12), look(0, 13, 13)), fromInt(1, api.OK)},
		{riverR(look(0, 0, 200), look(1, 0, 200), look(2, 0, 200), look(3, 0, 200), look(5, 12, 200)), fromInt(16, api.OK)},
		// Fewer than all that clash: two pairs, of which the second one is not named.
		{plain(span(4, 8), exactly(0), 1, look(0, 4, 5), look(1, 6, 8)), fromInt(3, api.OK)},
		{plain(span(4, 8), exactly(0), 1, look(0, 4, 6), look(1, 6, 8)), none},
		{plain(span(4, 8), exactly(0), 1, look(1, 9, 9)), fromInt(1, api.OK)},
	} {
		if got := fromInt(river.Clash(x.r)); got != x.want {
			t.Error(i, got, "want", x.want)
		}
	}
}
