package stand_test

import (
	"testing"

	"shearworks/api"
	"shearworks/stand"
)

func span(lo, hi int) api.Span { return api.Span{Lo: lo, Hi: hi} }

func exactly(n int) api.Span { return span(n, n) }

func run(start, bell int) api.StandRun { return api.StandRun{Start: start, Bell: bell} }

// counted is a look: at a minute from lo to hi sheep were done.
func counted(minute, lo, hi int) api.StandLook {
	return api.StandLook{Minute: minute, Done: span(lo, hi)}
}

// standS is the stand S of the chapter, with looks: none, that of standX, or those of standN.
func standS(looks ...api.StandLook) api.Stand {
	return api.Stand{
		Minutes: [api.StandKinds]api.Span{span(3, 4), span(5, 5), span(8, 10)},
		Runs:    []api.StandRun{run(0, 12), run(15, 25)},
		Sheep:   []int{0, 1, 0, 2, 0, 0},
		Looks:   looks,
	}
}

func standX() api.Stand { return standS(counted(11, 2, 2)) }

func standN() api.Stand { return standS(counted(11, 2, 2), counted(25, 6, 6)) }

// steady is a stand with sheep that all are of the kind 0, and take as long.
func steady(minutes api.Span, sheep int, runs ...api.StandRun) api.Stand {
	return api.Stand{
		Minutes: [api.StandKinds]api.Span{minutes, span(1, 5), span(36, 40)},
		Runs:    runs,
		Sheep:   make([]int, sheep),
	}
}

// touching has runs of which one starts as the bell of the one before it rings.
func touching(looks ...api.StandLook) api.Stand {
	s := steady(span(4, 5), 5, run(10, 20), run(20, 24), run(40, 41))
	s.Looks = looks
	return s
}

// long has sheep that last through runs, and beyond them.
func long(minutes, sheep int) api.Stand {
	return steady(exactly(minutes), sheep, run(0, 1), run(2, 3), run(10, 12), run(40, 600))
}

// P4.1
func TestDone(t *testing.T) {
	for i, x := range []struct {
		s     api.Stand
		sheep int
		want  api.Span
	}{
		{standS(), 0, span(3, 4)},
		{standS(), 1, span(8, 9)},
		{standS(), 2, span(11, 13)},
		{standS(), 3, span(19, 25)},
		{standS(), 4, span(22, api.StandNone)},
		{standS(), 5, span(25, api.StandNone)},
		{standX(), 0, exactly(4)},
		{standX(), 3, span(23, 25)},
		{standX(), 5, exactly(api.StandNone)},
		// The first sheep is begun at the Start, and one that is begun is finished after the bell.
		{touching(), 0, span(14, 15)},
		{touching(), 1, span(18, 20)},
		// One that is ready as the bell rings is begun in the next run, at its Start; one that is not done then is waited for.
		{touching(), 2, span(22, 25)},
		{touching(), 3, span(26, 45)},
		{touching(), 4, span(44, api.StandNone)},
		// A whole run can be gone before a sheep is done.
		{long(9, 3), 0, exactly(9)},
		{long(9, 3), 1, exactly(19)},
		{long(9, 3), 2, exactly(49)},
		{long(10, 3), 1, exactly(20)},
		{long(11, 3), 1, exactly(22)},
		{long(12, 3), 1, exactly(52)}, // it is done as the bell of the third run rings
		{long(39, 16), 15, exactly(39 + 1 + 15*39)},
		// The last minute of all.
		{steady(exactly(40), 2, run(599, 600)), 0, exactly(639)},
		{steady(exactly(40), 2, run(599, 600)), 1, exactly(api.StandNone)},
		{steady(exactly(1), 2, run(598, 600)), 1, exactly(600)},
	} {
		if got, e := stand.Done(x.s, x.sheep); got != x.want || e != api.OK {
			t.Error(i, got, e, "want", x.want)
		}
	}
}

// P4.2
func TestCount(t *testing.T) {
	for i, x := range []struct {
		s      api.Stand
		minute int
		want   api.Span
	}{
		{standS(), 12, span(2, 3)},
		{standS(), 25, span(4, 6)},
		{standX(), 25, exactly(4)},
		{standS(), 0, exactly(0)},
		{standS(), 2, exactly(0)},
		{standS(), 3, span(0, 1)}, // it is done at the minute 3 too, not only after it
		{standS(), 4, exactly(1)},
		{standS(), 999, span(4, 6)},
		{standX(), 999, span(4, 5)},
		{touching(), 14, span(0, 1)},
		{touching(), 15, exactly(1)},
		{touching(), 39, span(3, 4)},
		{touching(), 45, span(4, 5)},
		{touching(counted(39, 4, 16)), 14, exactly(1)},
		{touching(counted(39, 4, 16)), 45, exactly(5)},
		// After the bell sheep are done too.
		{steady(exactly(40), 1, run(599, 600)), 600, exactly(0)},
		{steady(exactly(40), 1, run(599, 600)), 638, exactly(0)},
		{steady(exactly(40), 1, run(599, 600)), 639, exactly(1)},
		// None are done if there are none.
		{steady(exactly(1), 0, run(0, 600)), 600, exactly(0)},
		{steady(exactly(1), 16, run(0, 600)), 600, exactly(16)},
	} {
		if got, e := stand.Count(x.s, x.minute); got != x.want || e != api.OK {
			t.Error(i, got, e, "want", x.want)
		}
	}
}

// P4.3
func TestTakes(t *testing.T) {
	for i, x := range []struct {
		s    api.Stand
		kind int
		want api.Span
	}{
		{standS(), 0, span(3, 4)},
		{standX(), 0, exactly(4)},
		{standS(), 1, exactly(5)},
		{standX(), 2, span(8, 10)},
		// A kind of which there is no sheep can take all its Minutes.
		{touching(counted(14, 1, 1)), 0, exactly(4)},
		{touching(counted(14, 1, 1)), 1, span(1, 5)},
		{touching(counted(14, 1, 1)), 2, span(36, 40)},
		{steady(span(2, 6), 0, run(0, 1)), 0, span(2, 6)},
		// A look tells of all kinds together.
		{standS(counted(22, 5, 5)), 0, exactly(3)},
		{standS(counted(22, 5, 5)), 2, exactly(8)},
		// Here a sheep takes 3 minutes and one of the kind 2 takes 10, or 4 and 8: not all between the ends is true.
		{standS(counted(23, 4, 4)), 0, span(3, 4)},
		{standS(counted(23, 4, 4)), 2, span(8, 10)},
		{standS(counted(23, 4, 4), counted(3, 1, 1)), 2, exactly(10)},
		{standS(counted(23, 4, 4), counted(3, 0, 0)), 2, exactly(8)},
	} {
		if got, e := stand.Takes(x.s, x.kind); got != x.want || e != api.OK {
			t.Error(i, got, e, "want", x.want)
		}
	}
}

// P4.4 and P4.5
func TestBegunAndOver(t *testing.T) {
	for i, x := range []struct {
		s           api.Stand
		run         int
		begun, over api.Span
	}{
		{standS(), 0, span(3, 4), span(1, 9)},
		{standS(), 1, span(1, 2), span(0, 3)},
		{standX(), 0, exactly(3), exactly(1)},
		{touching(), 0, span(2, 3), span(0, 2)}, // done as the bell rings is done by then
		{touching(), 1, exactly(1), span(1, 2)},
		{touching(), 2, exactly(1), span(3, 4)},
		// The last sheep is none that is begun in a later run, and no bell but that of the run counts.
		{long(9, 3), 0, exactly(1), exactly(8)},
		{long(9, 3), 1, exactly(0), exactly(0)},
		{long(9, 3), 2, exactly(1), exactly(7)},
		{long(9, 3), 3, exactly(1), exactly(0)},
		// No sheep is left.
		{steady(span(2, 3), 2, run(0, 10), run(10, 20)), 0, exactly(2), exactly(0)},
		{steady(span(2, 3), 2, run(0, 10), run(10, 20)), 1, exactly(0), exactly(0)},
		{steady(span(2, 3), 0, run(0, 10)), 0, exactly(0), exactly(0)},
		{steady(exactly(40), 16, run(0, 600)), 0, exactly(15), exactly(0)},
		{steady(exactly(40), 16, run(1, 600)), 0, exactly(15), exactly(1)},
		{steady(exactly(40), 16, run(599, 600)), 0, exactly(1), exactly(39)},
	} {
		if got, e := stand.Begun(x.s, x.run); got != x.begun || e != api.OK {
			t.Error(i, got, e, "want", x.begun)
		}
		if got, e := stand.Over(x.s, x.run); got != x.over || e != api.OK {
			t.Error(i, got, e, "want", x.over)
		}
	}
}

// P4.6
func TestLate(t *testing.T) {
	for i, x := range []struct {
		s         api.Stand
		run, want int
	}{
		{standS(), 1, api.StandPerhaps},
		{standX(), 1, api.StandNever},
		{touching(), 1, api.StandPerhaps},
		{steady(span(5, 5), 5, run(10, 20), run(20, 24)), 1, api.StandNever}, // one that is done at the Start is not late
		{touching(), 2, api.StandNever},
		{steady(span(6, 7), 3, run(10, 20), run(20, 24)), 1, api.StandAlways},
		{steady(span(5, 6), 3, run(10, 20), run(20, 24)), 1, api.StandPerhaps},
		// The sheep that is late may have been begun in any run before, and need not leave any to be begun.
		{long(9, 1), 1, api.StandAlways},
		{long(9, 1), 2, api.StandNever},
		{long(10, 1), 2, api.StandNever},
		{long(11, 1), 2, api.StandAlways},
		{long(11, 1), 3, api.StandNever},
		{long(40, 1), 2, api.StandAlways},
		{long(40, 1), 3, api.StandNever},
		{long(36, 2), 2, api.StandAlways},
		// Without sheep none is late.
		{long(40, 0), 1, api.StandNever},
	} {
		if got, e := stand.Late(x.s, x.run); got != x.want || e != api.OK {
			t.Error(i, got, e, "want", x.want)
		}
	}
}

// P4.7 and P4
func TestClash(t *testing.T) {
	for i, x := range []struct {
		looks []api.StandLook
		want  int
		e     api.Errno
	}{
		{standN().Looks, 3, api.OK},
		{standX().Looks, 0, api.ErrNone},
		{nil, 0, api.ErrNone},
		{[]api.StandLook{counted(2, 1, 1)}, 1, api.OK},
		// One look that is wrong by itself is fewer than two that clash.
		{[]api.StandLook{counted(11, 2, 2), counted(25, 6, 6), counted(4, 0, 0)}, 4, api.OK},
		// Of two such the least number.
		{[]api.StandLook{counted(4, 2, 2), counted(2, 1, 1)}, 1, api.OK},
		// Of pairs the least number: 0 1 before 0 2, and 1 2 before 0 3.
		{[]api.StandLook{counted(11, 2, 2), counted(25, 6, 6), counted(3, 1, 1)}, 3, api.OK},
		{[]api.StandLook{counted(3, 1, 1), counted(8, 2, 2), counted(11, 2, 2)}, 5, api.OK},
		{[]api.StandLook{counted(11, 2, 2), counted(11, 3, 3), counted(3, 1, 1), counted(25, 6, 6)}, 3, api.OK},
		{[]api.StandLook{counted(25, 0, 16), counted(3, 1, 1), counted(11, 2, 2), counted(25, 6, 6)}, 6, api.OK},
		{[]api.StandLook{counted(4, 1, 1), counted(3, 0, 0), counted(24, 4, 4), counted(23, 3, 3)}, 0, api.ErrNone},
	} {
		if got, e := stand.Clash(standS(x.looks...)); got != x.want || e != x.e {
			t.Error(i, got, e, "want", x.want, x.e)
		}
	}
}

// P4.7: of three looks, each two of which can be right, all are named.
func TestClashOfThree(t *testing.T) {
	s := api.Stand{
		Minutes: [api.StandKinds]api.Span{span(1, 5), span(1, 5), span(1, 1)},
		Runs:    []api.StandRun{run(0, 100)},
		Sheep:   []int{0, 1, 1},
		// The kind 0 takes 4 at least; both together take 5 at most; and with one more of the kind 1 they take 8 at least.
		Looks: []api.StandLook{counted(50, 3, 3), counted(3, 0, 0), counted(5, 2, 3), counted(7, 0, 2)},
	}
	if got, e := stand.Clash(s); got != 14 || e != api.OK {
		t.Error(got, e)
	}
	for left := range s.Looks[1:] {
		part := s
		part.Looks = append([]api.StandLook{}, s.Looks[:left+1]...)
		part.Looks = append(part.Looks, s.Looks[left+2:]...)
		if got, e := stand.Clash(part); got != 0 || e != api.ErrNone {
			t.Error(left, got, e)
		}
	}
}
