package stand_test

import (
	"math/bits"
	"reflect"
	"slices"
	"testing"

	"shearworks/api"
	"shearworks/stand"
)

// report is all that can be said of a stand.
type report struct {
	done, count, takes, begun, over []api.Span // by sheep, minute (one in seven), kind and run
	late                            []int      // by run, from 1 on
}

// reportOf returns ErrClash if there is no truth.
func reportOf(s api.Stand) (report, api.Errno) {
	var r report
	add := func(list []api.Span, s api.Span, _ api.Errno) []api.Span { return append(list, s) }
	for sheep := range s.Sheep {
		answer, e := stand.Done(s, sheep)
		r.done = add(r.done, answer, e)
	}
	for minute := 0; minute < lastMinute; minute += 7 {
		answer, e := stand.Count(s, minute)
		r.count = add(r.count, answer, e)
	}
	for kind := range api.StandKinds {
		answer, e := stand.Takes(s, kind)
		r.takes = add(r.takes, answer, e)
	}
	for number := range s.Runs {
		answer, e := stand.Begun(s, number)
		r.begun = add(r.begun, answer, e)
		answer, e = stand.Over(s, number)
		r.over = add(r.over, answer, e)
		if number > 0 {
			late, _ := stand.Late(s, number)
			r.late = append(r.late, late)
		}
	}
	_, e := stand.Takes(s, 0)
	return r, e
}

func inSpan(inner, outer api.Span) bool { return outer.Lo <= inner.Lo && inner.Hi <= outer.Hi }

func asSure(now, before int) bool { return before == api.StandPerhaps || now == before }

// asExact tells whether nothing is said less exactly than before.
func asExact(now, before report) bool {
	return slices.EqualFunc(now.done, before.done, inSpan) && slices.EqualFunc(now.count, before.count, inSpan) &&
		slices.EqualFunc(now.takes, before.takes, inSpan) && slices.EqualFunc(now.begun, before.begun, inSpan) &&
		slices.EqualFunc(now.over, before.over, inSpan) && slices.EqualFunc(now.late, before.late, asSure)
}

func clone(s api.Stand) api.Stand {
	s.Runs, s.Sheep, s.Looks = slices.Clone(s.Runs), slices.Clone(s.Sheep), slices.Clone(s.Looks)
	return s
}

// narrower returns a span within another one.
func narrower(r *chance, s api.Span) api.Span {
	return r.span(s.Lo, s.Hi, s.Hi-s.Lo)
}

// P4.9 and P2: with a look more, or a kind or a look that is known better, nothing is returned less exactly.
func TestKnownBetter(t *testing.T) {
	r := chance(2)
	compared := 0
	for range 150 {
		s := anyStand(&r)
		before, e := reportOf(s)
		if e != api.OK {
			continue
		}
		better := clone(s)
		switch r.below(3) {
		case 0:
			if len(better.Looks) == api.StandLooks {
				continue
			}
			minute := r.below(api.StandDay + 1)
			done, _ := stand.Count(s, minute)
			better.Looks = append(better.Looks, api.StandLook{Minute: minute, Done: narrower(&r, done)})
		case 1:
			kind := r.below(api.StandKinds)
			better.Minutes[kind] = narrower(&r, s.Minutes[kind])
		case 2:
			if len(better.Looks) == 0 {
				continue
			}
			i := r.below(len(s.Looks))
			better.Looks[i].Done = narrower(&r, s.Looks[i].Done)
		}
		now, e := reportOf(better)
		if e == api.ErrClash {
			continue
		}
		compared++
		if e != api.OK || !asExact(now, before) {
			t.Fatal(s, better, before, now, e)
		}
	}
	if compared < 60 {
		t.Error("too few compared", compared)
	}
}

// withMinutes returns the stand with a shearer of whom all is known.
func withMinutes(s api.Stand, of func(s api.Span) int) api.Stand {
	for kind, minutes := range s.Minutes {
		s.Minutes[kind] = exactly(of(minutes))
	}
	return s
}

// P4.9: a shearer who takes longer is done later with each sheep, and has no more done at any minute; without looks the quickest and the slowest one are the ends.
func TestQuickestAndSlowest(t *testing.T) {
	r := chance(3)
	for range 100 {
		s := anyStand(&r)
		s.Looks = nil
		quick := withMinutes(s, func(s api.Span) int { return s.Lo })
		slow := withMinutes(s, func(s api.Span) int { return s.Hi })
		some := withMinutes(s, func(s api.Span) int { return s.Lo + r.below(s.Hi-s.Lo+1) })
		for sheep := range s.Sheep {
			least, _ := stand.Done(quick, sheep)
			greatest, _ := stand.Done(slow, sheep)
			between, _ := stand.Done(some, sheep)
			all, e := stand.Done(s, sheep)
			if e != api.OK || all != span(least.Lo, greatest.Hi) || !inSpan(between, all) {
				t.Fatal(s, sheep, least, between, greatest, all, e)
			}
		}
		for minute := 0; minute < lastMinute; minute += 7 {
			greatest, _ := stand.Count(quick, minute)
			least, _ := stand.Count(slow, minute)
			between, _ := stand.Count(some, minute)
			all, e := stand.Count(s, minute)
			if e != api.OK || all != span(least.Lo, greatest.Hi) || !inSpan(between, all) {
				t.Fatal(s, minute, least, between, greatest, all, e)
			}
		}
	}
}

// P4.9: without looks a sheep more at the end changes nothing for those before it.
func TestSheepMore(t *testing.T) {
	r := chance(4)
	for range 100 {
		s := anyStand(&r)
		s.Looks = nil
		if len(s.Sheep) == api.StandSheep {
			continue
		}
		before, _ := reportOf(s)
		more := clone(s)
		more.Sheep = append(more.Sheep, r.below(api.StandKinds))
		now, e := reportOf(more)
		if e != api.OK || !slices.Equal(now.done[:len(s.Sheep)], before.done) {
			t.Fatal(more, now.done, before.done, e)
		}
	}
}

// P4.9: no more sheep are begun in a run than there is room for, and all that are shorn are begun in some run.
func TestRoom(t *testing.T) {
	r := chance(5)
	for range 100 {
		s := anyStand(&r)
		s.Looks = nil
		quickest := min(s.Minutes[0].Lo, s.Minutes[1].Lo, s.Minutes[2].Lo)
		begun := 0
		for number, run := range s.Runs {
			many, e := stand.Begun(withMinutes(s, func(s api.Span) int { return s.Lo }), number)
			if room := (run.Bell - run.Start + quickest - 1) / quickest; e != api.OK || many.Lo != many.Hi || many.Hi > room {
				t.Fatal(s, number, many, room, e)
			}
			begun += many.Hi
		}
		if all, e := stand.Count(s, api.StandNone-1); e != api.OK || all.Hi != begun {
			t.Fatal(s, all, begun, e)
		}
	}
}

// P4.9 and P13: the order of looks makes no difference but to their numbers.
func TestOrderOfLooks(t *testing.T) {
	r := chance(6)
	clashes := 0
	for range 150 {
		s := anyStand(&r)
		turned := clone(s)
		slices.Reverse(turned.Looks)
		before, e := reportOf(s)
		now, f := reportOf(turned)
		if e != f || !reflect.DeepEqual(now, before) {
			t.Fatal(s, before, e, now, f)
		}
		set, e := stand.Clash(s)
		other, f := stand.Clash(turned)
		if e != f || bits.OnesCount(uint(set)) != bits.OnesCount(uint(other)) {
			t.Fatal(s, set, e, other, f)
		}
		if e == api.OK {
			clashes++
			checkClash(t, s, set)
			checkClash(t, turned, other)
		}
	}
	if clashes < 10 {
		t.Error("too few clashes", clashes)
	}
}

// checkClash checks that the looks of the set clash, and that without any one of them they do not (P4).
func checkClash(t *testing.T, s api.Stand, set int) {
	t.Helper()
	for left := -1; left < len(s.Looks); left++ {
		if left >= 0 && set>>left&1 == 0 {
			continue
		}
		part := clone(s)
		part.Looks = nil
		for i, l := range s.Looks {
			if set>>i&1 == 1 && i != left {
				part.Looks = append(part.Looks, l)
			}
		}
		want := api.OK
		if left < 0 {
			want = api.ErrClash
		}
		if _, e := stand.Count(part, 0); e != want {
			t.Fatal(s, set, left, e)
		}
	}
}
