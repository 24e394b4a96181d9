package mob_test

import (
	"math/bits"
	"reflect"
	"slices"
	"testing"

	"shearworks/api"
	"shearworks/mob"
)

// report is all that can be said of a way.
type report struct {
	comes           [][]api.Span // by mob, and by place from its Start on
	where           [][]int      // by mob, and by day
	stretch         []api.Span
	safe            []int
	ahead           [][]int
	surely, perhaps []int // by day
}

// reportDays are the days that a report asks about.
func reportDays() (days []int) {
	for day := 0; day <= 48; day += 4 {
		days = append(days, day)
	}
	return append(days, 100)
}

// reportOf returns ErrClash if there is no truth.
func reportOf(m api.Mob) (report, api.Errno) {
	var r report
	for i, h := range m.Herds {
		var comes []api.Span
		for place := h.Start; place < len(m.Places); place++ {
			s, _ := mob.Comes(m, i, place)
			comes = append(comes, s)
		}
		r.comes = append(r.comes, comes)
		var where []int
		for _, day := range reportDays() {
			set, _ := mob.Where(m, i, day)
			where = append(where, set)
		}
		r.where = append(r.where, where)
		stretch, _ := mob.Stretch(m, i)
		r.stretch = append(r.stretch, stretch)
		safe, _ := mob.Safe(m, i)
		r.safe = append(r.safe, safe)
		var ahead []int
		for other := range m.Herds {
			n, _ := mob.Ahead(m, i, other)
			ahead = append(ahead, n)
		}
		r.ahead = append(r.ahead, ahead)
	}
	var e api.Errno
	for _, day := range reportDays() {
		var surely, perhaps int
		surely, perhaps, e = mob.There(m, day)
		r.surely, r.perhaps = append(r.surely, surely), append(r.perhaps, perhaps)
	}
	return r, e
}

func inSpan(inner, outer api.Span) bool { return outer.Lo <= inner.Lo && inner.Hi <= outer.Hi }

func asSure(now, before int) bool { return before == api.MobPerhaps || now == before }

func inSet(inner, outer int) bool { return inner&^outer == 0 }

// asExact tells whether nothing is said less exactly than before.
func asExact(now, before report) bool {
	for i := range before.comes {
		if !slices.EqualFunc(now.comes[i], before.comes[i], inSpan) || !slices.EqualFunc(now.where[i], before.where[i], inSet) || !slices.EqualFunc(now.ahead[i], before.ahead[i], asSure) {
			return false
		}
	}
	return slices.EqualFunc(now.stretch, before.stretch, inSpan) && slices.EqualFunc(now.safe, before.safe, asSure) &&
		slices.EqualFunc(before.surely, now.surely, inSet) && slices.EqualFunc(now.perhaps, before.perhaps, inSet)
}

func clone(m api.Mob) api.Mob {
	m.Places, m.Legs, m.Herds, m.Seen = slices.Clone(m.Places), slices.Clone(m.Legs), slices.Clone(m.Herds), slices.Clone(m.Seen)
	return m
}

// narrower returns a span within another one.
func narrower(r *chance, s api.Span) api.Span {
	return r.span(s.Lo, s.Hi, s.Hi-s.Lo)
}

// P1.9 and P2: with one thing more that was seen, or a leg or a day that is known better, nothing is returned less exactly.
func TestKnownBetter(t *testing.T) {
	r := chance(2)
	compared := 0
	for range 250 {
		m := anyWay(&r)
		before, e := reportOf(m)
		if e != api.OK {
			continue
		}
		better := clone(m)
		switch r.below(4) {
		case 0:
			if len(better.Seen) == api.MobSeens {
				continue
			}
			i := r.below(len(m.Herds))
			place := m.Herds[i].Start + r.below(len(m.Places)-m.Herds[i].Start)
			days, _ := mob.Comes(m, i, place)
			better.Seen = append(better.Seen, api.MobSeen{Mob: i, Place: place, Days: narrower(&r, days)})
		case 1:
			leg := r.below(len(m.Legs))
			better.Legs[leg] = narrower(&r, m.Legs[leg])
		case 2:
			i := r.below(len(m.Herds))
			better.Herds[i].Leaves = narrower(&r, m.Herds[i].Leaves)
		case 3:
			if len(better.Seen) == 0 {
				continue
			}
			i := r.below(len(m.Seen))
			better.Seen[i].Days = narrower(&r, m.Seen[i].Days)
		}
		now, e := reportOf(better)
		if e == api.ErrClash {
			continue
		}
		compared++
		if e != api.OK || !asExact(now, before) {
			t.Fatal(m, better, before, now, e)
		}
	}
	if compared < 80 {
		t.Error("too few compared", compared)
	}
}

// P1.9: a mob that leaves later comes later by as many days, if none was seen.
func TestLeavesLater(t *testing.T) {
	r := chance(3)
	for range 100 {
		m := anyWay(&r)
		m.Seen = nil
		late := clone(m)
		days := 1 + r.below(15)
		i := r.below(len(m.Herds))
		late.Herds[i].Leaves = span(m.Herds[i].Leaves.Lo+days, m.Herds[i].Leaves.Hi+days)
		for place := m.Herds[i].Start; place < len(m.Places); place++ {
			before, _ := mob.Comes(m, i, place)
			now, e := mob.Comes(late, i, place)
			if e != api.OK || now != span(before.Lo+days, before.Hi+days) {
				t.Fatal(m, days, before, now, e)
			}
		}
	}
}

// P1.9 and P13: the order of what was seen makes no difference but to its numbers.
func TestOrderOfSeen(t *testing.T) {
	r := chance(4)
	clashes := 0
	for range 150 {
		m := anyWay(&r)
		turned := clone(m)
		slices.Reverse(turned.Seen)
		before, e := reportOf(m)
		now, f := reportOf(turned)
		if e != f || !reflect.DeepEqual(now, before) {
			t.Fatal(m, before, e, now, f)
		}
		set, e := mob.Clash(m)
		other, f := mob.Clash(turned)
		if e != f || bits.OnesCount(uint(set)) != bits.OnesCount(uint(other)) {
			t.Fatal(m, set, e, other, f)
		}
		if e == api.OK {
			clashes++
			checkClash(t, m, set)
			checkClash(t, turned, other)
		}
	}
	if clashes < 10 {
		t.Error("too few clashes", clashes)
	}
}

// checkClash checks that the set clashes, and that without any one of its things it does not (P4).
func checkClash(t *testing.T, m api.Mob, set int) {
	t.Helper()
	for _, left := range []int{-1, 0, 1, 2, 3, 4} {
		if left >= 0 && set>>left&1 == 0 {
			continue
		}
		part := clone(m)
		part.Seen = nil
		for i, s := range m.Seen {
			if set>>i&1 == 1 && i != left {
				part.Seen = append(part.Seen, s)
			}
		}
		want := api.OK
		if left < 0 {
			want = api.ErrClash
		}
		if _, _, e := mob.There(part, 0); e != want {
			t.Fatal(m, set, left, e)
		}
	}
}

// P1.9: if mobs are numbered otherwise only their numbers change.
func TestNumbersOfMobs(t *testing.T) {
	r := chance(5)
	for range 150 {
		m := anyWay(&r)
		last := len(m.Herds) - 1
		turned := clone(m)
		slices.Reverse(turned.Herds)
		for i := range turned.Seen {
			turned.Seen[i].Mob = last - turned.Seen[i].Mob
		}
		before, e := reportOf(m)
		now, f := reportOf(turned)
		slices.Reverse(now.comes)
		slices.Reverse(now.where)
		slices.Reverse(now.stretch)
		slices.Reverse(now.safe)
		slices.Reverse(now.ahead)
		for i := range now.ahead {
			slices.Reverse(now.ahead[i])
		}
		for i := range now.surely {
			now.surely[i], now.perhaps[i] = reversed(now.surely[i], last), reversed(now.perhaps[i], last)
		}
		if e != f || !reflect.DeepEqual(now, before) {
			t.Fatal(m, before, e, now, f)
		}
		set, e := mob.Clash(m)
		if other, f := mob.Clash(turned); set != other || e != f {
			t.Fatal(m, set, e, other, f)
		}
	}
}

// reversed returns the set of last - n for each n of a set.
func reversed(set, last int) int {
	turned := 0
	for n := range last + 1 {
		turned |= set >> n & 1 << (last - n)
	}
	return turned
}

// P1.8: of mobs that are at the shed by a day none is gone by a later one, and what is surely there perhaps is.
func TestNoneGoes(t *testing.T) {
	r := chance(6)
	for range 60 {
		m := anyWay(&r)
		if _, e := mob.Clash(m); e == api.OK {
			continue
		}
		surely, perhaps := 0, 0
		for day := range 101 {
			a, b, e := mob.There(m, day)
			if e != api.OK || !inSet(surely, a) || !inSet(perhaps, b) || !inSet(a, b) {
				t.Fatal(m, day, a, b, e)
			}
			surely, perhaps = a, b
		}
		if all := 1<<len(m.Herds) - 1; surely != all || perhaps != all {
			t.Fatal(m, surely, perhaps)
		}
	}
}
