package dry_test

import (
	"testing"

	"shearworks/api"
	"shearworks/dry"
)

func span(lo, hi int) api.Span { return api.Span{Lo: lo, Hi: hi} }

func herd(lo, hi, left int) api.DryMob { return api.DryMob{Wet: span(lo, hi), Left: left} }

// pen returns a pen; the numbers of mobs that are not named are no valid ones.
func pen(lo, hi int, from ...int) api.DryPen {
	p := api.DryPen{From: [api.DryMobs]int{-7, 99, -1, 10}, Found: span(lo, hi)}
	copy(p.From[:], from)
	return p
}

// sheepD, sheepE and sheepN return the sheep of the chapter's examples.
func sheepD() api.Dry {
	return api.Dry{
		Mobs:  []api.DryMob{herd(2, 5, 2), herd(0, 3, 0)},
		Pens:  []api.DryPen{pen(1, 2, 3, 1), pen(0, 6, 2, 4)},
		Limit: 1,
	}
}

func sheepE() api.Dry {
	d := sheepD()
	d.Pens[1].Found = span(5, 6)
	return d
}

func sheepN() api.Dry {
	d := sheepD()
	d.Mobs[0].Wet, d.Mobs[1].Wet = span(2, 2), span(0, 0)
	d.Pens[0].Found, d.Pens[1].Found = span(2, 2), span(1, 1)
	return d
}

// oneMob returns sheep of one mob, so many in each pen, with nothing found.
func oneMob(m api.DryMob, limit int, sheep ...int) api.Dry {
	d := api.Dry{Mobs: []api.DryMob{m}, Limit: limit}
	for _, n := range sheep {
		d.Pens = append(d.Pens, pen(0, api.DryFound, n))
	}
	return d
}

// felt returns the sheep with other findings of the first pens.
func felt(d api.Dry, found ...api.Span) api.Dry {
	for number, s := range found {
		d.Pens[number].Found = s
	}
	return d
}

// P2.1: how many sheep of a mob are wet.
func TestMob(t *testing.T) {
	for i, x := range []struct {
		d    api.Dry
		want []api.Span
	}{
		{sheepD(), []api.Span{span(2, 5), span(0, 3)}},
		{sheepE(), []api.Span{span(3, 5), span(3, 3)}},
		{oneMob(herd(0, 54, 9), 0, 9, 9, 9, 9, 9), []api.Span{span(0, 54)}},
		{oneMob(herd(0, 54, 0), 0, 3), []api.Span{span(0, 3)}},
		{oneMob(herd(0, 54, 0), 0, 0), []api.Span{span(0, 0)}},
		{felt(oneMob(herd(0, 54, 2), 0, 5, 5), span(2, 3), span(1, 1)), []api.Span{span(3, 6)}},
		{felt(oneMob(herd(5, 5, 2), 0, 5, 5), span(0, 3), span(0, 1)), []api.Span{span(5, 5)}},
	} {
		for number, want := range x.want {
			if got, e := dry.Mob(x.d, number); got != want || e != api.OK {
				t.Error(i, number, got, e, "want", want)
			}
		}
	}
}

// P2.1: how many sheep of a pen are wet.
func TestPen(t *testing.T) {
	for i, x := range []struct {
		d    api.Dry
		want []api.Span
	}{
		{sheepD(), []api.Span{span(1, 2), span(0, 5)}},
		{sheepE(), []api.Span{span(1, 2), span(5, 5)}},
		{oneMob(herd(5, 54, 0), 0, 3, 3), []api.Span{span(2, 3), span(2, 3)}},
		{oneMob(herd(5, 54, 1), 0, 3, 3), []api.Span{span(1, 3), span(1, 3)}},
		{oneMob(herd(0, 1, 9), 0, 3, 3), []api.Span{span(0, 1), span(0, 1)}},
		{felt(oneMob(herd(0, 1, 9), 0, 3, 3), span(1, 36)), []api.Span{span(1, 1), span(0, 0)}},
		{oneMob(herd(0, 0, 0), 0, 9), []api.Span{span(0, 0)}},
	} {
		for number, want := range x.want {
			if got, e := dry.Pen(x.d, number); got != want || e != api.OK {
				t.Error(i, number, got, e, "want", want)
			}
		}
	}
}

// P2.1: how many sheep of a mob in a pen are wet.
func TestPart(t *testing.T) {
	four := api.Dry{
		Mobs: []api.DryMob{herd(0, 9, 0), herd(0, 1, 0), herd(0, 9, 0), herd(9, 9, 0)},
		Pens: []api.DryPen{pen(8, 8, 4, 4, 4, 0), pen(0, 36, 0, 0, 0, 9)},
	}
	for i, x := range []struct {
		d        api.Dry
		mob, pen int
		want     api.Span
	}{
		{sheepD(), 0, 0, span(0, 2)},
		{sheepD(), 1, 1, span(0, 3)},
		{sheepD(), 0, 1, span(0, 2)},
		{sheepD(), 1, 0, span(0, 1)},
		{sheepE(), 0, 0, span(1, 2)},
		{sheepE(), 1, 0, span(0, 0)},
		{sheepE(), 1, 1, span(3, 3)},
		{four, 0, 0, span(3, 4)},
		{four, 1, 0, span(0, 1)},
		{four, 2, 0, span(3, 4)},
		{four, 3, 0, span(0, 0)},
		{four, 3, 1, span(9, 9)},
	} {
		if got, e := dry.Part(x.d, x.mob, x.pen); got != x.want || e != api.OK {
			t.Error(i, x.mob, x.pen, got, e, "want", x.want)
		}
	}
}

// P2.2 to P2.4: whether pens are dry, which ones, and how many sheep.
func TestDry(t *testing.T) {
	limit := func(d api.Dry, n int) api.Dry {
		d.Limit = n
		return d
	}
	for i, x := range []struct {
		d                      api.Dry
		dry                    []int
		surely, perhaps, sheep int
	}{
		{sheepD(), []int{api.DryPerhaps, api.DryPerhaps}, 0, 3, 0},
		{sheepE(), []int{api.DryPerhaps, api.DryNever}, 0, 1, 0},
		{limit(sheepD(), 0), []int{api.DryNever, api.DryPerhaps}, 0, 2, 0},
		{limit(sheepD(), 2), []int{api.DryAlways, api.DryPerhaps}, 1, 3, 4},
		{limit(sheepD(), 4), []int{api.DryAlways, api.DryPerhaps}, 1, 3, 4},
		{limit(sheepD(), 5), []int{api.DryAlways, api.DryAlways}, 3, 3, 10},
		{limit(sheepE(), 4), []int{api.DryAlways, api.DryNever}, 1, 1, 4},
		{limit(sheepE(), 36), []int{api.DryAlways, api.DryAlways}, 3, 3, 10},
		{oneMob(herd(0, 0, 9), 0, 0, 9, 3), []int{api.DryAlways, api.DryAlways, api.DryAlways}, 7, 7, 12},
		{felt(oneMob(herd(2, 9, 9), 1, 4, 5, 6), span(0, 1), span(2, 9), span(1, 1)), []int{api.DryAlways, api.DryNever, api.DryAlways}, 5, 5, 10},
	} {
		for number, want := range x.dry {
			if got, e := dry.Dry(x.d, number); got != want || e != api.OK {
				t.Error(i, number, got, e, "want", want)
			}
		}
		if surely, perhaps, e := dry.Shear(x.d); surely != x.surely || perhaps != x.perhaps || e != api.OK {
			t.Error(i, surely, perhaps, e)
		}
		if sheep, e := dry.Sheep(x.d); sheep != x.sheep || e != api.OK {
			t.Error(i, sheep, e)
		}
	}
}

// P2.5: how many sheep are wet at all.
func TestAll(t *testing.T) {
	for i, x := range []struct {
		d    api.Dry
		want api.Span
	}{
		{sheepD(), span(2, 8)},
		{sheepE(), span(6, 8)},
		{oneMob(herd(0, 54, 9), 0, 9, 9, 9, 9, 9), span(0, 54)},
		{oneMob(herd(0, 54, 1), 0, 2, 2), span(0, 5)},
		{felt(oneMob(herd(0, 54, 1), 0, 2, 2), span(1, 1), span(2, 9)), span(3, 4)},
		{api.Dry{Mobs: []api.DryMob{herd(1, 9, 3), herd(1, 9, 0)}, Pens: []api.DryPen{pen(3, 5, 4, 4)}}, span(3, 8)},
		{api.Dry{Mobs: []api.DryMob{herd(1, 9, 3), herd(1, 9, 0)}, Pens: []api.DryPen{pen(3, 5, 4, 4), pen(0, 0, 9, 9)}}, span(3, 8)},
	} {
		if got, e := dry.All(x.d); got != x.want || e != api.OK {
			t.Error(i, got, e, "want", x.want)
		}
	}
}

// P2.6: which findings cannot all be right.
func TestClash(t *testing.T) {
	for i, x := range []struct {
		d    api.Dry
		want int
	}{
		{sheepN(), 3},
		{felt(oneMob(herd(1, 1, 0), 0, 2, 2), span(3, 9)), 1},
		{felt(oneMob(herd(1, 1, 0), 0, 2, 2), span(0, 2), span(2, 2)), 2},
		{felt(oneMob(herd(0, 3, 0), 0, 9, 9, 9), span(4, 9), span(5, 9), span(6, 9)), 1},
		{felt(oneMob(herd(0, 3, 0), 0, 9, 9, 9), span(0, 1), span(2, 9), span(2, 9)), 6},
		{felt(oneMob(herd(0, 5, 0), 0, 9, 9, 9, 9), span(2, 9), span(2, 9), span(2, 9), span(2, 9)), 7},
		{felt(oneMob(herd(0, 4, 0), 0, 9, 9, 9, 9), span(1, 9), span(2, 9), span(2, 9), span(5, 9)), 8},
		{felt(oneMob(herd(20, 54, 0), 0, 9, 9, 9), span(0, 1), span(0, 9), span(0, 9)), 1},
		{felt(oneMob(herd(45, 54, 0), 0, 9, 9, 9, 9, 9), span(0, 9), span(0, 9), span(0, 9), span(0, 9), span(0, 8)), 16},
		{felt(oneMob(herd(0, 0, 0), 0, 1, 1, 1, 1, 1), span(0, 9), span(0, 9), span(0, 9), span(0, 9), span(1, 9)), 16},
		{felt(oneMob(herd(4, 4, 0), 0, 1, 1, 1, 1, 1), span(0, 0), span(0, 0), span(0, 0), span(1, 1), span(1, 1)), 3},
	} {
		if got, e := dry.Clash(x.d); got != x.want || e != api.OK {
			t.Error(i, got, e, "want", x.want)
		}
	}
	for i, d := range []api.Dry{sheepD(), sheepE(), oneMob(herd(0, 54, 9), 0, 9, 9, 9, 9, 9)} {
		if got, e := dry.Clash(d); got != 0 || e != api.ErrNone {
			t.Error(i, got, e)
		}
	}
}
