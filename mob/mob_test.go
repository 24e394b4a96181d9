package mob_test

import (
	"testing"

	"shearworks/api"
	"shearworks/mob"
)

func span(lo, hi int) api.Span { return api.Span{Lo: lo, Hi: hi} }

func herd(start, lo, hi, thirst int) api.MobHerd {
	return api.MobHerd{Start: start, Leaves: span(lo, hi), Thirst: thirst}
}

func saw(herd, place, lo, hi int) api.MobSeen {
	return api.MobSeen{Mob: herd, Place: place, Days: span(lo, hi)}
}

// wayR is the way R of the chapter, with what was seen: nothing, A (wayK), or A and B (wayN).
func wayR(seen ...api.MobSeen) api.Mob {
	return api.Mob{
		Places: []api.MobPlace{{Water: true, Rest: 1}, {}, {Water: true, Rest: 2}, {}},
		Legs:   []api.Span{span(2, 3), span(1, 1), span(2, 2)},
		Herds:  []api.MobHerd{herd(0, 0, 1, 4), herd(1, 3, 3, 2)},
		Seen:   seen,
	}
}

func wayK() api.Mob { return wayR(saw(0, 1, 4, 4)) }

func wayN() api.Mob { return wayR(saw(0, 1, 4, 4), saw(0, 2, 3, 4)) }

// twins is one leg of 3 to 5 days, for two mobs that leave on the days 2 and 3.
func twins(seen ...api.MobSeen) api.Mob {
	return api.Mob{
		Places: []api.MobPlace{{}, {Water: true, Rest: 3}},
		Legs:   []api.Span{span(3, 5)},
		Herds:  []api.MobHerd{herd(0, 2, 3, 4), herd(0, 2, 3, 5)},
		Seen:   seen,
	}
}

// dryRests is a way whose only water, with a Rest, is at the Start and at the shed; the dry place in between has a Rest too.
func dryRests() api.Mob {
	return api.Mob{
		Places: []api.MobPlace{{Water: true, Rest: 3}, {Rest: 3}, {Water: true, Rest: 3}},
		Legs:   []api.Span{span(1, 2), span(4, 4)},
		Herds:  []api.MobHerd{herd(0, 10, 10, 5), herd(1, 10, 13, 3)},
	}
}

// wells has water at each place, and a mob that starts in the middle.
func wells() api.Mob {
	return api.Mob{
		Places: []api.MobPlace{{Water: true, Rest: 1}, {Water: true, Rest: 0}, {Water: true, Rest: 3}, {Water: true, Rest: 1}, {}, {}},
		Legs:   []api.Span{span(1, 1), span(2, 2), span(3, 5), span(1, 1), span(4, 4)},
		Herds:  []api.MobHerd{herd(0, 0, 0, 20), herd(2, 30, 30, 0)},
	}
}

// P1.1
func TestComes(t *testing.T) {
	for i, x := range []struct {
		m           api.Mob
		herd, place int
		want        api.Span
	}{
		{wayR(), 0, 0, span(0, 1)},
		{wayR(), 0, 1, span(2, 4)},
		{wayR(), 0, 2, span(3, 5)},
		{wayR(), 0, 3, span(7, 9)},
		{wayR(), 1, 1, span(3, 3)},
		{wayR(), 1, 2, span(4, 4)},
		{wayR(), 1, 3, span(8, 8)},
		{wayK(), 0, 0, span(1, 1)},
		{wayK(), 0, 3, span(9, 9)},
		{twins(), 0, 1, span(5, 8)},
		// What was seen of one mob tells how long the leg takes for the other one.
		{twins(saw(1, 1, 8, 9)), 0, 1, span(7, 8)},
		{twins(saw(1, 1, 8, 9), saw(0, 1, 0, 7)), 0, 0, span(2, 2)},
		{twins(saw(0, 0, 3, 100)), 0, 1, span(6, 8)},
		// No mob rests at its Start, nor at a place without water.
		{dryRests(), 0, 1, span(11, 12)},
		{dryRests(), 0, 2, span(15, 16)},
		{dryRests(), 1, 2, span(14, 17)},
		// It rests at each later place with water.
		{wells(), 0, 1, span(1, 1)},
		{wells(), 0, 2, span(3, 3)},
		{wells(), 0, 3, span(9, 11)},
		{wells(), 0, 4, span(11, 13)},
		{wells(), 0, 5, span(15, 17)},
		{wells(), 1, 2, span(30, 30)},
		{wells(), 1, 3, span(33, 35)},
		{wells(), 1, 5, span(39, 41)},
	} {
		if got, e := mob.Comes(x.m, x.herd, x.place); got != x.want || e != api.OK {
			t.Error(i, got, e, "want", x.want)
		}
	}
}

// P1.2
func TestWhere(t *testing.T) {
	for i, x := range []struct {
		m               api.Mob
		herd, day, want int
	}{
		{wayR(), 0, 4, 6},
		{wayR(), 0, 0, 1},
		{wayK(), 0, 4, 2},
		{wayR(), 0, 3, 7},
		{wayR(), 0, 5, 4},
		{wayR(), 0, 7, 12},
		{wayR(), 0, 9, 8},
		{wayR(), 1, 0, 2}, // its Start, before it leaves
		{wayR(), 1, 3, 2},
		{wayR(), 1, 4, 4},
		{wayR(), 1, 100, 8},
		{twins(), 0, 4, 1},
		{twins(), 0, 5, 3},
		{twins(), 0, 7, 3},
		{twins(), 0, 8, 2},
		{wells(), 0, 8, 4},
		{wells(), 0, 11, 24},
	} {
		if got, e := mob.Where(x.m, x.herd, x.day); got != x.want || e != api.OK {
			t.Error(i, got, e, "want", x.want)
		}
	}
}

// P1.3 and P1.4
func TestStretchAndSafe(t *testing.T) {
	dry := wayR()
	dry.Places[2].Water = false
	hardy := twins()
	hardy.Herds[0].Thirst = 2
	for i, x := range []struct {
		m    api.Mob
		herd int
		want api.Span
		safe int
	}{
		{wayR(), 0, span(3, 4), api.MobAlways},
		{wayR(), 1, span(2, 2), api.MobAlways},
		{wayK(), 0, span(4, 4), api.MobAlways},
		{dry, 0, span(5, 6), api.MobNever},
		{dry, 1, span(3, 3), api.MobNever},
		{twins(), 0, span(3, 5), api.MobPerhaps},
		{twins(), 1, span(3, 5), api.MobAlways},
		{hardy, 0, span(3, 5), api.MobNever},
		{twins(saw(1, 1, 8, 9)), 0, span(5, 5), api.MobNever},
		{twins(saw(1, 1, 0, 5)), 0, span(3, 3), api.MobAlways},
		{dryRests(), 0, span(5, 6), api.MobPerhaps},
		{dryRests(), 1, span(4, 4), api.MobNever},
		// The longest stretch need not be the last one, and rests are no part of one.
		{wells(), 0, span(5, 5), api.MobAlways},
		{wells(), 1, span(5, 5), api.MobNever},
	} {
		if got, e := mob.Stretch(x.m, x.herd); got != x.want || e != api.OK {
			t.Error(i, got, e, "want", x.want)
		}
		if got, e := mob.Safe(x.m, x.herd); got != x.safe || e != api.OK {
			t.Error(i, got, e, "want", x.safe)
		}
	}
}

// P1.5
func TestAhead(t *testing.T) {
	for i, x := range []struct {
		m                 api.Mob
		herd, other, want int
	}{
		{wayR(), 0, 1, api.MobPerhaps},
		{wayR(), 1, 0, api.MobPerhaps},
		{wayK(), 0, 1, api.MobNever},
		{wayK(), 1, 0, api.MobAlways},
		{twins(), 0, 1, api.MobPerhaps},
		{twins(saw(0, 0, 3, 3)), 0, 1, api.MobNever},
		{twins(saw(0, 0, 3, 3)), 1, 0, api.MobPerhaps}, // they can come on the same day
		// The leg takes as long for both, whichever it is.
		{twins(saw(0, 0, 3, 3), saw(1, 0, 2, 2)), 1, 0, api.MobAlways},
		{twins(saw(0, 0, 3, 3), saw(1, 0, 2, 2)), 0, 1, api.MobNever},
		{twins(saw(0, 0, 3, 3), saw(1, 0, 3, 3)), 0, 1, api.MobNever},
		// No mob comes before itself.
		{wayR(), 0, 0, api.MobNever},
		{wayR(), 1, 1, api.MobNever},
		{twins(), 1, 1, api.MobNever},
		{wells(), 0, 1, api.MobAlways},
	} {
		if got, e := mob.Ahead(x.m, x.herd, x.other); got != x.want || e != api.OK {
			t.Error(i, got, e, "want", x.want)
		}
	}
}

// P1.6
func TestThere(t *testing.T) {
	none := wayR()
	none.Herds = nil
	for i, x := range []struct {
		m                    api.Mob
		day, surely, perhaps int
	}{
		{wayR(), 0, 0, 0},
		{wayR(), 6, 0, 0},
		{wayR(), 7, 0, 1},
		{wayR(), 8, 2, 3},
		{wayR(), 9, 3, 3},
		{wayR(), 100, 3, 3},
		{wayK(), 8, 2, 2},
		{wayK(), 9, 3, 3},
		{twins(), 4, 0, 0},
		{twins(), 5, 0, 3},
		{twins(), 8, 3, 3},
		{none, 50, 0, 0},
	} {
		if surely, perhaps, e := mob.There(x.m, x.day); surely != x.surely || perhaps != x.perhaps || e != api.OK {
			t.Error(i, surely, perhaps, e, "want", x.surely, x.perhaps)
		}
	}
}

// P1.7
func TestClash(t *testing.T) {
	none := wayR()
	none.Herds = nil
	for i, x := range []struct {
		m    api.Mob
		want int
		e    api.Errno
	}{
		{wayR(), 0, api.ErrNone},
		{wayK(), 0, api.ErrNone},
		{none, 0, api.ErrNone},
		{wayN(), 3, api.OK},
		{wayR(saw(1, 1, 4, 9)), 1, api.OK},
		// One thing that cannot be is fewer than two that cannot both be.
		{wayR(saw(0, 1, 4, 4), saw(0, 2, 3, 4), saw(1, 3, 9, 9)), 4, api.OK},
		{wayR(saw(1, 3, 9, 9), saw(0, 1, 4, 4), saw(0, 2, 3, 4)), 1, api.OK},
		// Of several sets with as many the least number, and of equal things the first.
		{wayR(saw(0, 2, 3, 4), saw(0, 1, 4, 4), saw(0, 2, 3, 4)), 3, api.OK},
		{wayR(saw(1, 1, 0, 0), saw(1, 1, 0, 0)), 1, api.OK},
		{wayR(saw(0, 0, 0, 1), saw(0, 1, 4, 4), saw(0, 3, 7, 8), saw(0, 2, 3, 4)), 6, api.OK},
		// Legs take as long for all mobs, so two mobs can clash, and three things of which no two do.
		{twins(saw(0, 1, 8, 8), saw(1, 1, 5, 6)), 3, api.OK},
		{twins(saw(0, 1, 8, 8), saw(1, 1, 5, 7)), 0, api.ErrNone},
		{twins(saw(1, 1, 6, 6), saw(0, 1, 7, 7), saw(1, 0, 3, 3)), 7, api.OK},
		{twins(saw(0, 0, 2, 3), saw(1, 1, 6, 6), saw(0, 1, 7, 7), saw(0, 1, 5, 8), saw(1, 0, 3, 3)), 22, api.OK},
	} {
		if got, e := mob.Clash(x.m); got != x.want || e != x.e {
			t.Error(i, got, e, "want", x.want, x.e)
		}
	}
}
