package press_test

import (
	"slices"
	"testing"

	"shearworks/api"
	"shearworks/press"
)

func clone(p api.Press) api.Press {
	p.Fleeces, p.Weighed = slices.Clone(p.Fleeces), slices.Clone(p.Weighed)
	return p
}

// weightsOf returns how heavy each set of fleeces is; none if there is no truth.
func weightsOf(t *testing.T, p api.Press) (list []api.Span) {
	t.Helper()
	for fleeces := range 1 << len(p.Fleeces) {
		w, e := press.Weight(p, fleeces)
		if e == api.ErrClash {
			return nil
		}
		if e != api.OK {
			t.Fatal(p, fleeces, e)
		}
		list = append(list, w)
	}
	return list
}

// most returns the greatest number of fleeces that are pressed, and into how many bales.
func most(t *testing.T, p api.Press) [2]int {
	t.Helper()
	fleeces, bales, e := press.Most(p)
	if e != api.OK {
		t.Fatal(p, e)
	}
	return [2]int{fleeces, bales}
}

func asSure(now, before int) bool { return before == api.PressPerhaps || now == before }

// checkPlan checks that each bale of a plan is between both weights, however heavy fleeces truly are, and of one line, and that each fleece is in one bale or waits.
func checkPlan(t *testing.T, p api.Press, x truth) (pressed int) {
	t.Helper()
	bales, e := press.Plan(p)
	if e != api.OK || !slices.IsSorted(bales) || len(bales) > p.Bales {
		t.Fatal(p, bales, e)
	}
	taken := 0
	for _, b := range bales {
		if w := x.of(b); w < p.Low || w > p.Top || !ofOneLine(p, b) || b&taken != 0 {
			t.Fatal(p, x, bales, b, w)
		}
		taken |= b
	}
	if got := most(t, p); got != [2]int{size(taken), len(bales)} {
		t.Fatal(p, bales, got)
	}
	if lines, e := press.Wait(p); lines != waiting(p, bales) || e != api.OK {
		t.Fatal(p, bales, lines, e)
	}
	return size(taken)
}

// P8.9, P2 and P8: however heavy fleeces truly are, if weighings are right, it is as it is returned.
func TestWhatIsTrue(t *testing.T) {
	r := chance(3)
	pressed, perhaps := 0, 0
	for range 1500 {
		p, x := anyPress(&r, r.below(8))
		for fleeces := range 1 << len(p.Fleeces) {
			w, e := press.Weight(p, fleeces)
			if e != api.OK || !within(x.of(fleeces), w) {
				t.Fatal(p, x, fleeces, w, e)
			}
			fit, e := press.Fits(p, fleeces)
			if e != api.OK || !asSure(howFit(p, fleeces, []int{x.of(fleeces)}), fit) {
				t.Fatal(p, x, fleeces, fit, e)
			}
			if fit == api.PressPerhaps {
				perhaps++
			}
		}
		if set, e := press.False(p); set != 0 || e != api.ErrNone {
			t.Fatal(p, x, set, e)
		}
		pressed += min(1, checkPlan(t, p, x))
	}
	if pressed < 300 || perhaps < 1000 {
		t.Error("too few", pressed, perhaps)
	}
}

// P8.6 and P8.9: with the fleece that is returned the others fit, however heavy they truly are.
func TestAdded(t *testing.T) {
	r := chance(4)
	added := 0
	for range 1500 {
		p, x := anyPress(&r, 1+r.below(7))
		fleeces := r.below(1<<len(p.Fleeces)) & r.below(1<<len(p.Fleeces))
		number, e := press.Add(p, fleeces)
		if e == api.ErrNone {
			continue
		}
		if e != api.OK || has(fleeces, number) || howFit(p, fleeces|1<<number, []int{x.of(fleeces | 1<<number)}) != api.PressAlways {
			t.Fatal(p, x, fleeces, number, e)
		}
		added++
	}
	if added < 100 {
		t.Error("too few", added)
	}
}

// checkMore checks that nothing is returned less exactly than before, if there is a truth; it tells whether there is, and whether a weight is known better and more are pressed.
func checkMore(t *testing.T, before, now api.Press) (is, better, more bool) {
	t.Helper()
	old, list := weightsOf(t, before), weightsOf(t, now)
	if list == nil {
		return false, false, false
	}
	for fleeces, w := range list {
		if w.Lo < old[fleeces].Lo || w.Hi > old[fleeces].Hi {
			t.Fatal(before, now, fleeces, old[fleeces], w)
		}
		was, _ := press.Fits(before, fleeces)
		if fit, e := press.Fits(now, fleeces); !asSure(fit, was) || e != api.OK {
			t.Fatal(before, now, fleeces, was, fit, e)
		}
	}
	one, other := most(t, before), most(t, now)
	if other[0] < one[0] || other[0] == one[0] && other[1] > one[1] {
		t.Fatal(before, now, one, other)
	}
	return true, !slices.Equal(old, list), other[0] > one[0]
}

// looseBale returns a bale of fleeces that no bale has yet that was weighed, and of any weight near theirs; none if there can be none.
func looseBale(r *chance, p api.Press, x truth) (b api.PressBale, is bool) {
	set := r.below(1 << len(p.Fleeces))
	for _, other := range p.Weighed {
		set &^= other.Fleeces
	}
	if set == 0 || len(p.Weighed) == api.PressWeighed {
		return b, false
	}
	heavy := max(1, x.of(set)+r.from(-4, 4))
	return nearly(r, set, heavy), true
}

// P8.9 and P2: with a bale more that was weighed no weight is wider, and no fewer fleeces can be pressed, unless there is no truth then.
func TestBaleWeighedMore(t *testing.T) {
	r := chance(5)
	better, pressed, clashes := 0, 0, 0
	for range 2500 {
		p, x := anyPress(&r, 1+r.below(6))
		b, is := looseBale(&r, p, x)
		if !is {
			continue
		}
		now := clone(p)
		now.Weighed = append(now.Weighed, b)
		switch is, known, more := checkMore(t, p, now); {
		case !is:
			clashes++
		case more:
			pressed++
		case known:
			better++
		}
	}
	if better < 200 || pressed < 50 || clashes < 50 {
		t.Error("too few", better, pressed, clashes)
	}
}

// P8.9 and P2: with a fleece that is known better no weight is wider, and no fewer fleeces can be pressed, unless there is no truth then.
func TestFleeceKnownBetter(t *testing.T) {
	r := chance(6)
	better, pressed, clashes := 0, 0, 0
	for range 3000 {
		p, _ := anyPress(&r, 1+r.below(6))
		now := clone(p)
		number := r.below(len(p.Fleeces))
		w := p.Fleeces[number].Weight
		lo := r.from(w.Lo, w.Hi)
		now.Fleeces[number].Weight = span(lo, r.from(lo, w.Hi))
		switch is, known, more := checkMore(t, p, now); {
		case !is:
			clashes++
		case more:
			pressed++
		case known:
			better++
		}
	}
	if better < 300 || pressed < 50 || clashes < 50 {
		t.Error("too few", better, pressed, clashes)
	}
}

// P8.9: with a bale more that can be pressed no fewer fleeces are pressed, and as many into as few bales as before.
func TestBaleMore(t *testing.T) {
	r := chance(7)
	pressed := 0
	for range 2000 {
		p, _ := anyPress(&r, r.below(9))
		p.Bales = min(p.Bales, api.PressBales-1)
		one, other := most(t, p), most(t, with(p, p.Bales+1))
		if other[0] < one[0] || other[0] == one[0] && other[1] != one[1] {
			t.Fatal(p, one, other)
		}
		if other[0] > one[0] {
			pressed++
		}
	}
	if pressed < 200 {
		t.Error("too few", pressed)
	}
}

// turned returns a set if its numbers are in the opposite order.
func turned(set, many int) int {
	other := 0
	for number := range many {
		if has(set, number) {
			other |= 1 << (many - 1 - number)
		}
	}
	return other
}

// turnedPress returns the press if fleeces, lines and bales that were weighed are numbered in the opposite order.
func turnedPress(p api.Press) api.Press {
	p = clone(p)
	slices.Reverse(p.Fleeces)
	slices.Reverse(p.Weighed)
	for number := range p.Fleeces {
		p.Fleeces[number].Line = api.PressLines - 1 - p.Fleeces[number].Line
	}
	for number, b := range p.Weighed {
		p.Weighed[number].Fleeces = turned(b.Fleeces, len(p.Fleeces))
	}
	return p
}

// P8.9 and P13: if all is numbered otherwise as many fleeces are pressed into as few bales, each set is as heavy, and fits as before. Of several best pressings another one can be returned then.
func TestNumbers(t *testing.T) {
	r := chance(8)
	others, clashes := 0, 0
	for range 1500 {
		p, _ := anyPress(&r, r.below(7))
		p = mistaken(&r, p)
		other := turnedPress(p)
		set, e := press.False(p)
		if now, f := press.False(other); now != turned(set, len(p.Weighed)) || e != f {
			t.Fatal(p, set, e, now, f)
		}
		if e == api.OK {
			clashes++
			continue
		}
		for fleeces := range 1 << len(p.Fleeces) {
			back := turned(fleeces, len(p.Fleeces))
			one, two := fromSpan(press.Weight(p, fleeces)), fromSpan(press.Weight(other, back))
			three, four := fromInt(press.Fits(p, fleeces)), fromInt(press.Fits(other, back))
			if one != two || three != four {
				t.Fatal(p, fleeces, one, two, three, four)
			}
		}
		if most(t, p) != most(t, other) {
			t.Fatal(p, other)
		}
		one, _ := press.Wait(p)
		two, _ := press.Wait(other)
		if slices.Reverse(two[:]); one != two {
			others++
		}
	}
	if others < 10 || clashes < 100 {
		t.Error("too few", others, clashes)
	}
}

// P8.7 and P4: without the bales that are named there is a truth, and with each of them alone there is none.
func TestWithoutFalse(t *testing.T) {
	r := chance(9)
	several := 0
	for range 5000 {
		p, _ := anyPress(&r, 1+r.below(8))
		p = mistaken(&r, p)
		set, e := press.False(p)
		if _, _, clash := press.Most(p); (e == api.OK) != (clash == api.ErrClash) || (e == api.OK) != (set != 0) {
			t.Fatal(p, set, e, clash)
		}
		right := weighed(p)
		for number, b := range p.Weighed {
			if !has(set, number) {
				right.Weighed = append(right.Weighed, b)
			} else if alone, e := press.False(weighed(p, b)); alone != 1 || e != api.OK {
				t.Fatal(p, set, number, alone, e)
			}
		}
		if none, e := press.False(right); none != 0 || e != api.ErrNone {
			t.Fatal(p, set, none, e)
		}
		if size(set) > 1 {
			several++
		}
	}
	if several < 30 {
		t.Error("too few", several)
	}
}
