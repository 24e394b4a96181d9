package classer_test

import (
	"testing"

	"shearworks/api"
	"shearworks/classer"
)

func span(lo, hi int) api.Span { return api.Span{Lo: lo, Hi: hi} }

func exactly(n int) api.Span { return span(n, n) }

func bale(fleeces, looked, wrong int) api.ClassBale {
	return api.ClassBale{Fleeces: fleeces, Looked: looked, Wrong: wrong}
}

// line is one with so many that may be wrong, drift and mistakes.
func line(may, drift, mistakes int, bales ...api.ClassBale) api.Classer {
	return api.Classer{Bales: bales, May: may, Drift: drift, Mistakes: mistakes}
}

// lineC, lineD and lineN are the lines of the chapter.
func lineC() api.Classer { return line(2, 2, 1, bale(10, 4, 1), bale(10, 5, 0), bale(8, 8, 3)) }

func lineD() api.Classer { return line(2, 2, 1, bale(10, 4, 1), bale(10, 5, 0), bale(8, 8, 6)) }

func lineN() api.Classer { return line(2, 0, 1, bale(10, 4, 1), bale(10, 5, 0), bale(8, 8, 8)) }

// allAlike is a line of six bales.
func allAlike(may, drift, mistakes int, b api.ClassBale) api.Classer {
	return line(may, drift, mistakes, b, b, b, b, b, b)
}

// P6.1
func TestWrong(t *testing.T) {
	for i, x := range []struct {
		c    api.Classer
		bale int
		want api.Span
	}{
		{lineC(), 0, span(0, 7)},
		{lineC(), 1, span(0, 5)},
		{lineC(), 2, span(2, 4)},
		{lineD(), 0, span(1, 7)},
		{lineD(), 1, span(3, 6)},
		{lineD(), 2, span(5, 7)},
		// Without looks there can be from none to all.
		{line(0, 0, 0, bale(1, 0, 0)), 0, span(0, 1)},
		{line(0, 0, 0, bale(30, 0, 0)), 0, span(0, 30)},
		// Each find says one thing of one fleece.
		{line(0, 0, 0, bale(30, 10, 4)), 0, span(4, 24)},
		{line(0, 0, 0, bale(30, 30, 4)), 0, exactly(4)},
		{line(0, 0, 0, bale(30, 10, 0)), 0, span(0, 20)},
		{line(0, 0, 0, bale(30, 10, 10)), 0, span(10, 30)},
		// A mistake is either way, and no fewer than none, or more than all, are wrong.
		{line(0, 0, 2, bale(30, 10, 4)), 0, span(2, 26)},
		{line(0, 0, 6, bale(30, 10, 4)), 0, span(0, 30)},
		{line(0, 0, 5, bale(30, 10, 4)), 0, span(0, 29)},
		{line(0, 0, 1, bale(1, 1, 0)), 0, span(0, 1)},
		{line(0, 0, 1, bale(6, 6, 5)), 0, span(4, 6)},
		// As many are wrong in each bale as in the next one, but for the drift; the smallest bale tells of all.
		{line(0, 0, 0, bale(30, 0, 0), bale(3, 0, 0), bale(30, 0, 0)), 0, span(0, 3)},
		{line(0, 2, 0, bale(30, 0, 0), bale(3, 0, 0), bale(30, 0, 0)), 2, span(0, 5)},
		{line(0, 2, 0, bale(3, 0, 0), bale(30, 0, 0), bale(30, 0, 0)), 2, span(0, 7)},
		{line(0, 3, 0, bale(20, 20, 10), bale(20, 0, 0), bale(20, 0, 0), bale(20, 20, 10)), 1, span(7, 13)},
		{line(0, 3, 0, bale(20, 20, 10), bale(20, 0, 0), bale(20, 20, 14)), 1, span(11, 13)},
		{line(0, 30, 0, bale(30, 30, 30), bale(30, 0, 0), bale(30, 30, 0)), 1, span(0, 30)},
		{line(0, 29, 0, bale(30, 30, 30), bale(30, 0, 0)), 1, span(1, 30)},
		{allAlike(0, 5, 0, bale(30, 0, 0)), 3, span(0, 30)},
		// One mistake is made only once: it is in this bale, or in another one.
		{line(0, 0, 1, bale(9, 9, 4), bale(9, 9, 4)), 0, exactly(4)},
		{line(0, 0, 2, bale(9, 9, 4), bale(9, 9, 4)), 0, span(3, 5)},
		{line(0, 1, 1, bale(9, 9, 4), bale(9, 9, 4)), 0, span(3, 5)},
		{line(0, 0, 1, bale(9, 9, 4), bale(9, 9, 5)), 1, span(4, 5)},
		{line(0, 0, 3, bale(9, 9, 4), bale(9, 9, 5)), 1, span(3, 6)},
	} {
		if got, e := classer.Wrong(x.c, x.bale); got != x.want || e != api.OK {
			t.Error(i, got, e, "want", x.want)
		}
	}
}

// P6.1
func TestAll(t *testing.T) {
	for i, x := range []struct {
		c    api.Classer
		want api.Span
	}{
		{lineC(), span(3, 16)},
		{lineD(), span(9, 19)},
		{line(0, 0, 0, bale(30, 10, 4)), span(4, 24)},
		{line(0, 0, 2, bale(30, 10, 4)), span(2, 26)},
		{allAlike(0, 0, 0, bale(30, 0, 0)), span(0, 180)},
		{allAlike(0, 30, 6, bale(30, 30, 30)), span(174, 180)},
		{allAlike(0, 30, 6, bale(30, 30, 0)), span(0, 6)},
		{allAlike(0, 0, 6, bale(30, 30, 9)), span(48, 60)},
		{allAlike(0, 0, 5, bale(30, 30, 9)), exactly(54)},
		{allAlike(0, 1, 5, bale(30, 30, 9)), span(49, 59)},
		// All together are known better than each one is: the mistake is not in both.
		{line(0, 30, 1, bale(9, 9, 4), bale(9, 9, 4)), span(7, 9)},
		{line(0, 30, 2, bale(9, 9, 4), bale(9, 9, 4)), span(6, 10)},
		// In the middle a mistake lets those on both sides drift further.
		{line(0, 1, 1, bale(9, 0, 0), bale(9, 9, 4), bale(9, 0, 0)), span(7, 17)},
		{line(0, 1, 0, bale(9, 0, 0), bale(9, 9, 4), bale(9, 0, 0)), span(10, 14)},
		{line(0, 1, 0, bale(9, 9, 4), bale(9, 0, 0), bale(9, 0, 0)), span(9, 15)},
		{line(0, 0, 0, bale(9, 0, 0), bale(4, 0, 0), bale(2, 0, 0)), span(0, 6)},
		{line(0, 1, 0, bale(9, 0, 0), bale(4, 0, 0), bale(2, 0, 0)), span(0, 9)},
	} {
		if got, e := classer.All(x.c); got != x.want || e != api.OK {
			t.Error(i, got, e, "want", x.want)
		}
	}
}

// P6.2 and P7
func TestKeeps(t *testing.T) {
	for i, x := range []struct {
		c    api.Classer
		bale int
		want int
	}{
		{lineC(), 0, api.ClassPerhaps},
		{lineC(), 1, api.ClassPerhaps},
		{lineC(), 2, api.ClassPerhaps},
		{lineD(), 0, api.ClassPerhaps},
		{lineD(), 1, api.ClassNever},
		{lineD(), 2, api.ClassNever},
		// As many as may be wrong still keep the line.
		{line(5, 0, 0, bale(9, 9, 5)), 0, api.ClassAlways},
		{line(4, 0, 0, bale(9, 9, 5)), 0, api.ClassNever},
		{line(4, 0, 1, bale(9, 9, 5)), 0, api.ClassPerhaps},
		{line(6, 0, 1, bale(9, 9, 5)), 0, api.ClassAlways},
		{line(5, 0, 1, bale(9, 9, 5)), 0, api.ClassPerhaps},
		{line(5, 0, 0, bale(9, 4, 0)), 0, api.ClassAlways},
		{line(4, 0, 0, bale(9, 4, 0)), 0, api.ClassPerhaps},
		{line(4, 0, 0, bale(9, 5, 5)), 0, api.ClassNever},
		{line(5, 0, 0, bale(9, 5, 5)), 0, api.ClassPerhaps},
		// What has fewer fleeces than may be wrong keeps the line.
		{line(9, 0, 0, bale(9, 0, 0)), 0, api.ClassAlways},
		{line(8, 0, 0, bale(9, 0, 0)), 0, api.ClassPerhaps},
		{line(30, 30, 6, bale(30, 30, 30)), 0, api.ClassAlways},
		{line(0, 0, 0, bale(30, 30, 0)), 0, api.ClassAlways},
		{line(0, 0, 0, bale(30, 30, 1)), 0, api.ClassNever},
		// By the bale beside it.
		{line(5, 1, 0, bale(9, 9, 4), bale(9, 0, 0)), 1, api.ClassAlways},
		{line(4, 1, 0, bale(9, 9, 4), bale(9, 0, 0)), 1, api.ClassPerhaps},
		{line(2, 1, 0, bale(9, 9, 4), bale(9, 0, 0)), 1, api.ClassNever},
	} {
		if got, e := classer.Keeps(x.c, x.bale); got != x.want || e != api.OK {
			t.Error(i, got, e, "want", x.want)
		}
	}
}

// verdict is what is said of a line as a whole.
type verdict struct {
	line, proof int
	e           api.Errno
}

// P6.2, P6.3 and P7
func TestLineAndProof(t *testing.T) {
	for i, x := range []struct {
		c    api.Classer
		want verdict
	}{
		{lineC(), verdict{api.ClassPerhaps, 0, api.ErrNone}},
		{lineD(), verdict{api.ClassNever, 1, api.OK}},
		{line(5, 0, 0, bale(9, 9, 5)), verdict{api.ClassAlways, 0, api.ErrNone}},
		{line(4, 0, 0, bale(9, 9, 5)), verdict{api.ClassNever, 0, api.OK}},
		{line(4, 0, 1, bale(9, 9, 5)), verdict{api.ClassPerhaps, 0, api.ErrNone}},
		{allAlike(30, 30, 6, bale(30, 0, 0)), verdict{api.ClassAlways, 0, api.ErrNone}},
		{allAlike(29, 30, 6, bale(30, 0, 0)), verdict{api.ClassPerhaps, 0, api.ErrNone}},
		// One bale that does not keep the line is enough.
		{line(5, 30, 0, bale(9, 9, 5), bale(9, 9, 6), bale(9, 9, 5)), verdict{api.ClassNever, 1, api.OK}},
		{line(5, 30, 0, bale(9, 9, 5), bale(9, 9, 5), bale(9, 9, 6)), verdict{api.ClassNever, 2, api.OK}},
		{line(5, 30, 0, bale(9, 9, 6), bale(9, 9, 5), bale(9, 9, 6)), verdict{api.ClassNever, 0, api.OK}},
		{line(5, 30, 0, bale(9, 9, 5), bale(9, 3, 0), bale(9, 9, 5)), verdict{api.ClassPerhaps, 0, api.ErrNone}},
		{line(5, 30, 0, bale(9, 9, 5), bale(9, 4, 0), bale(9, 9, 5)), verdict{api.ClassAlways, 0, api.ErrNone}},
		// Each of two bales can keep the line, by the one mistake; both of them cannot, so none proves it.
		{line(5, 30, 1, bale(9, 9, 6), bale(9, 9, 6)), verdict{api.ClassNever, 0, api.ErrNone}},
		{line(5, 30, 2, bale(9, 9, 6), bale(9, 9, 6)), verdict{api.ClassPerhaps, 0, api.ErrNone}},
		{line(5, 30, 2, bale(9, 9, 6), bale(9, 9, 5), bale(9, 9, 7)), verdict{api.ClassNever, 0, api.ErrNone}},
		{line(5, 30, 1, bale(9, 9, 6), bale(9, 9, 5), bale(9, 9, 7)), verdict{api.ClassNever, 2, api.OK}},
		{line(5, 30, 3, bale(9, 9, 6), bale(9, 9, 5), bale(9, 9, 7)), verdict{api.ClassPerhaps, 0, api.ErrNone}},
		// A drift leads past what may be, and a bale of few fleeces back to it.
		{line(5, 1, 0, bale(9, 0, 0), bale(9, 0, 0), bale(9, 9, 8)), verdict{api.ClassNever, 0, api.OK}},
		{line(5, 1, 0, bale(9, 0, 0), bale(9, 0, 0), bale(9, 0, 0), bale(9, 9, 8)), verdict{api.ClassNever, 1, api.OK}},
		{line(5, 1, 0, bale(9, 0, 0), bale(4, 0, 0)), verdict{api.ClassAlways, 0, api.ErrNone}},
		{line(5, 1, 0, bale(9, 0, 0), bale(5, 0, 0)), verdict{api.ClassPerhaps, 0, api.ErrNone}},
	} {
		var got verdict
		var e api.Errno
		got.line, e = classer.Line(x.c)
		got.proof, got.e = classer.Proof(x.c)
		if got != x.want || e != api.OK {
			t.Error(i, got, e, "want", x.want)
		}
	}
}

// looks is what is said of looks that cannot all be as they are.
type looks struct {
	mistaken, clash int
	e               api.Errno
}

// P6.4, P6.6 and P4
func TestMistakenAndClash(t *testing.T) {
	for i, x := range []struct {
		c    api.Classer
		want looks
	}{
		{lineC(), looks{0, 0, api.ErrNone}},
		{lineD(), looks{0, 0, api.ErrNone}},
		{lineN(), looks{3, 6, api.OK}},
		{line(0, 0, 0, bale(9, 9, 9)), looks{0, 0, api.ErrNone}},
		{line(0, 0, 0, bale(9, 9, 5), bale(9, 9, 6)), looks{1, 3, api.OK}},
		{line(0, 0, 1, bale(9, 9, 5), bale(9, 9, 6)), looks{1, 0, api.ErrNone}},
		{line(0, 1, 0, bale(9, 9, 5), bale(9, 9, 6)), looks{0, 0, api.ErrNone}},
		// More looks can have been mistaken than there may be.
		{line(0, 0, 6, bale(30, 30, 30), bale(30, 30, 0)), looks{30, 3, api.OK}},
		{line(0, 20, 6, bale(30, 30, 30), bale(30, 30, 0)), looks{10, 3, api.OK}},
		{line(0, 23, 6, bale(30, 30, 30), bale(30, 30, 0)), looks{7, 3, api.OK}},
		{line(0, 24, 6, bale(30, 30, 30), bale(30, 30, 0)), looks{6, 0, api.ErrNone}},
		{line(0, 0, 0, bale(30, 30, 30), bale(30, 30, 0), bale(30, 30, 30), bale(30, 30, 0), bale(30, 30, 30), bale(30, 30, 0)), looks{90, 3, api.OK}},
		// By its looks alone there can be a bale beside which another one has too few fleeces.
		{line(0, 0, 0, bale(9, 9, 5), bale(4, 0, 0)), looks{1, 1, api.OK}},
		{line(0, 0, 0, bale(4, 4, 4), bale(9, 0, 0), bale(9, 5, 5)), looks{1, 4, api.OK}},
		{line(0, 1, 0, bale(4, 0, 0), bale(9, 0, 0), bale(9, 7, 7), bale(9, 7, 7)), looks{1, 4, api.OK}},
		{line(0, 1, 0, bale(4, 0, 0), bale(9, 0, 0), bale(9, 6, 6), bale(9, 7, 7)), looks{0, 0, api.ErrNone}},
		{line(0, 1, 0, bale(4, 0, 0), bale(9, 0, 0), bale(9, 6, 6), bale(9, 8, 8)), looks{1, 8, api.OK}},
		// Of several pairs the least number is named.
		{line(0, 0, 0, bale(9, 9, 4), bale(9, 0, 0), bale(9, 9, 5), bale(9, 9, 6)), looks{2, 5, api.OK}},
		{line(0, 0, 0, bale(9, 0, 0), bale(9, 9, 5), bale(9, 9, 5), bale(9, 9, 6)), looks{1, 10, api.OK}},
		{line(0, 0, 0, bale(9, 9, 5), bale(9, 9, 5), bale(9, 9, 6), bale(9, 9, 6)), looks{2, 5, api.OK}},
		// A pair of a greater number goes before three of a lesser one.
		{line(0, 1, 0, bale(9, 9, 3), bale(9, 9, 3), bale(9, 0, 0), bale(9, 0, 0), bale(9, 9, 3), bale(9, 9, 5)), looks{1, 48, api.OK}},
		// Only three of them, or all six, are too many mistakes.
		{line(0, 30, 6, bale(1, 0, 0)), looks{0, 0, api.ErrNone}},
		{line(0, 0, 1, bale(9, 9, 4), bale(9, 9, 5), bale(9, 9, 6)), looks{2, 5, api.OK}},
		{line(0, 0, 2, bale(9, 9, 4), bale(9, 9, 5), bale(9, 9, 6)), looks{2, 0, api.ErrNone}},
		{line(0, 0, 1, bale(9, 9, 4), bale(9, 9, 5), bale(9, 9, 4), bale(9, 9, 5)), looks{2, 15, api.OK}},
		{line(0, 0, 2, bale(9, 9, 4), bale(9, 9, 5), bale(9, 9, 4), bale(9, 9, 5), bale(9, 9, 4), bale(9, 9, 5)), looks{3, 63, api.OK}},
		{line(0, 0, 1, bale(9, 9, 4), bale(9, 9, 5), bale(9, 9, 4), bale(9, 9, 4), bale(9, 9, 5)), looks{2, 23, api.OK}},
	} {
		var got looks
		var e api.Errno
		got.mistaken, e = classer.Mistaken(x.c)
		got.clash, got.e = classer.Clash(x.c)
		if got != x.want || e != api.OK {
			t.Error(i, got, e, "want", x.want)
		}
	}
}

// P6.5
func TestMore(t *testing.T) {
	for i, x := range []struct {
		c    api.Classer
		bale int
		want int
		e    api.Errno
	}{
		{lineC(), 0, 6, api.OK},
		{lineC(), 1, 4, api.OK},
		{lineC(), 2, 0, api.ErrNone},
		{lineD(), 0, 6, api.OK},
		{lineD(), 2, 0, api.ErrNone},
		// If three more were not found to be wrong there would be no truth at all.
		{lineD(), 1, 3, api.OK},
		// None if it surely keeps the line, also if all were looked at.
		{line(5, 0, 0, bale(9, 4, 0)), 0, 0, api.OK},
		{line(5, 0, 0, bale(9, 9, 5)), 0, 0, api.OK},
		{line(9, 0, 0, bale(9, 0, 0)), 0, 0, api.OK},
		// As many may be left as may be wrong, but for those that were found.
		{line(0, 0, 0, bale(30, 0, 0)), 0, 30, api.OK},
		{line(3, 0, 0, bale(30, 0, 0)), 0, 27, api.OK},
		{line(3, 0, 0, bale(30, 5, 1)), 0, 23, api.OK},
		{line(3, 0, 0, bale(30, 5, 3)), 0, 25, api.OK},
		{line(3, 0, 0, bale(30, 5, 4)), 0, 0, api.ErrNone},
		{line(3, 0, 0, bale(30, 30, 4)), 0, 0, api.ErrNone},
		// Each mistake there may be asks for one more, as long as some are left.
		{line(3, 0, 2, bale(30, 5, 1)), 0, 25, api.OK},
		{line(3, 0, 2, bale(30, 5, 2)), 0, 0, api.ErrNone},
		{line(3, 0, 3, bale(30, 0, 0)), 0, 30, api.OK},
		{line(3, 0, 4, bale(30, 0, 0)), 0, 0, api.ErrNone},
		// The bales beside it tell of it too.
		{line(3, 1, 0, bale(30, 0, 0), bale(30, 30, 2)), 0, 0, api.OK},
		{line(3, 1, 0, bale(30, 0, 0), bale(30, 30, 3)), 0, 27, api.OK},
		{line(3, 1, 0, bale(30, 0, 0), bale(30, 30, 4)), 0, 27, api.OK},
		{line(3, 1, 0, bale(30, 0, 0), bale(30, 30, 5)), 0, 27, api.OK},
		// A mistake that is in the bale beside it is not in this one.
		{line(3, 1, 1, bale(30, 0, 0), bale(30, 30, 2), bale(30, 30, 1)), 0, 0, api.OK},
		{line(3, 1, 1, bale(30, 0, 0), bale(30, 30, 2), bale(30, 30, 3)), 0, 27, api.OK},
		{line(3, 1, 1, bale(30, 0, 0), bale(30, 30, 3), bale(30, 30, 3)), 0, 28, api.OK},
	} {
		if got, e := classer.More(x.c, x.bale); got != x.want || e != x.e {
			t.Error(i, got, e, "want", x.want, x.e)
		}
	}
}
