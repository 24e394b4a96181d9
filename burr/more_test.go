package burr_test

import (
	"slices"
	"testing"

	"shearworks/api"
	"shearworks/burr"
)

// report is all that can be said of bales. With a truth only Next can return an error, if there are no bales.
type report struct {
	mobs, bales  [2]int // surely, and perhaps
	clean, pure  int
	count        int
	many, opened int
	bale, left   int
}

// reportOf returns ErrClash if there is no truth.
func reportOf(b api.Burr) (r report, e api.Errno) {
	r.bales[0], r.bales[1], _ = burr.Bales(b)
	r.clean, _ = burr.Clean(b)
	r.pure, _ = burr.Pure(b)
	r.count, _ = burr.Count(b)
	r.many, r.opened, _ = burr.Open(b)
	r.bale, r.left, _ = burr.Next(b)
	r.mobs[0], r.mobs[1], e = burr.Mobs(b)
	return r, e
}

func clone(b api.Burr) api.Burr {
	b.Bales, b.Tests = slices.Clone(b.Bales), slices.Clone(b.Tests)
	return b
}

// adding returns the bales with a test more.
func adding(b api.Burr, test api.BurrTest) api.Burr {
	b = clone(b)
	b.Tests = append(b.Tests, test)
	return b
}

func inSet(inner, outer int) bool { return inner&^outer == 0 }

func asSure(now, before int) bool { return before == api.BurrPerhaps || now == before }

// narrower tells whether all that surely was in a set still is, and all that now perhaps is in it perhaps was.
func narrower(now, before [2]int) bool { return inSet(before[0], now[0]) && inSet(now[1], before[1]) }

// asExact tells whether nothing is said less exactly than before.
func asExact(now, before report) bool {
	return narrower(now.mobs, before.mobs) && narrower(now.bales, before.bales) && asSure(now.clean, before.clean) &&
		inSet(before.pure, now.pure) && now.count <= before.count && now.many <= before.many && now.left <= before.left
}

// anyOpened returns bales of which so many at most were opened, each of them once, and a truth in which all tests are right.
func anyOpened(r *chance, many int) (b api.Burr, x truth) {
	b, x = anyWool(r, 1+r.below(api.BurrMobs), r.below(api.BurrBales+1))
	opened := 0
	for range many {
		if len(b.Bales) == 0 {
			break
		}
		number := r.below(len(b.Bales))
		if !has(opened, number) {
			opened |= 1 << number
			b = opening(b, 1<<number, x)
		}
	}
	return b, x
}

// opening returns the bales if a set of them is opened.
func opening(b api.Burr, bales int, x truth) api.Burr {
	for number := range b.Bales {
		if has(bales, number) {
			b = adding(b, api.BurrTest{Bale: number, Found: has(x.bales, number)})
		}
	}
	return b
}

func between(n int, s [2]int) bool { return inSet(s[0], n) && inSet(n, s[1]) }

// P7.8, P2 and P10: whichever mobs truly were in burrs, and whichever bales truly hold one, it is as it is returned.
func TestWhatIsTrue(t *testing.T) {
	r := chance(2)
	clean, pure, perhaps := 0, 0, 0
	for range 4000 {
		b, x := anyOpened(&r, r.below(4))
		said, e := reportOf(b)
		if e != api.OK || !between(x.mobs, said.mobs) || !between(x.bales, said.bales) || said.pure&x.bales != 0 || !inSet(said.pure, b.Top) {
			t.Fatal(b, x, said, e)
		}
		if !asSure(howSure([]truth{x}, func(x truth) bool { return x.bales&b.Top == 0 }), said.clean) {
			t.Fatal(b, x, said)
		}
		if got, e := burr.Clash(b); got != 0 || e != api.ErrNone {
			t.Fatal(b, x, got, e)
		}
		switch {
		case said.clean == api.BurrPerhaps:
			perhaps++
		case said.clean == api.BurrAlways && b.Top != 0:
			clean++
		case said.pure != 0:
			pure++
		}
	}
	if clean < 200 || pure < 200 || perhaps < 200 {
		t.Error("too few", clean, pure, perhaps)
	}
}

// P7.8 and P10: if the bales that are returned are opened it is known of all of the top line.
func TestOpened(t *testing.T) {
	r := chance(3)
	several := 0
	for range 2000 {
		b, x := anyOpened(&r, r.below(4))
		many, bales, e := burr.Open(b)
		if e != api.OK || size(bales) != many || bales>>len(b.Bales) != 0 {
			t.Fatal(b, many, bales, e)
		}
		after := opening(b, bales, x)
		surely, perhaps, e := burr.Bales(after)
		if e != api.OK || surely&b.Top != perhaps&b.Top || surely&b.Top != x.bales&b.Top {
			t.Fatal(b, x, bales, after, surely, perhaps, e)
		}
		if left, none, e := burr.Open(after); left != 0 || none != 0 || e != api.OK {
			t.Fatal(b, after, left, none, e)
		}
		if clean, e := burr.Clean(after); clean == api.BurrPerhaps || e != api.OK {
			t.Fatal(b, after, clean, e)
		}
		if many > 1 && many < size(b.Top) {
			several++
		}
	}
	if several < 30 {
		t.Error("too few", several)
	}
}

// P7.8: after the bale that is returned was opened no more truths are left than are returned; after another one there can be as many at least.
func TestOpenedNext(t *testing.T) {
	r := chance(4)
	equal := 0
	for range 2000 {
		b, x := anyOpened(&r, r.below(4))
		best, left, e := burr.Next(b)
		if len(b.Bales) == 0 {
			continue
		}
		if e != api.OK {
			t.Fatal(b, e)
		}
		if now, e := burr.Count(opening(b, 1<<best, x)); now > left || e != api.OK {
			t.Fatal(b, x, best, left, now, e)
		} else if now == left {
			equal++
		}
		for number := range b.Bales {
			with, _ := burr.Count(adding(b, burry(number)))
			without, _ := burr.Count(adding(b, free(number)))
			if most := max(with, without); most < left || most == left && number < best || number == best && most != left {
				t.Fatal(b, best, left, number, with, without)
			}
		}
	}
	if equal < 500 {
		t.Error("too few", equal)
	}
}

// P7.9 and P2: with one test more nothing is returned less exactly, unless there is no truth then, there are no more truths, and no more bales must be opened.
func TestTestMore(t *testing.T) {
	r := chance(5)
	better, clashes := 0, 0
	for range 4000 {
		b, _ := anyOpened(&r, r.below(4))
		before, e := reportOf(b)
		if e != api.OK || len(b.Bales) == 0 {
			continue
		}
		more := adding(b, api.BurrTest{Bale: r.below(len(b.Bales)), Found: r.below(2) == 0})
		now, f := reportOf(more)
		if f == api.ErrClash {
			clashes++
			continue
		}
		if f != api.OK || !asExact(now, before) {
			t.Fatal(b, more, before, now, f)
		}
		if now != before {
			better++
		}
	}
	if better < 500 || clashes < 100 {
		t.Error("too few", better, clashes)
	}
}

// P7.9: if there is no truth there is none with one test more, and no more tests are named.
func TestClashWithMore(t *testing.T) {
	r := chance(6)
	fewer := 0
	for range 3000 {
		b, x := anyWool(&r, 1+r.below(api.BurrMobs), 1+r.below(api.BurrBales))
		b = anyTests(&r, b, x, api.BurrTests-1, false)
		before, e := burr.Clash(b)
		if e != api.OK {
			continue
		}
		now, e := burr.Clash(adding(b, api.BurrTest{Bale: r.below(len(b.Bales)), Found: r.below(2) == 0}))
		if e != api.OK || size(now) > size(before) || size(now) == size(before) && now > before {
			t.Fatal(b, before, now, e)
		}
		if size(now) < size(before) {
			fewer++
		}
	}
	if fewer < 50 {
		t.Error("too few", fewer)
	}
}

// P7.9: nothing must be opened just if all of the top line is known.
func TestNothingToOpen(t *testing.T) {
	r := chance(7)
	none := 0
	for range 2000 {
		b, _ := anyOpened(&r, r.below(6))
		said, e := reportOf(b)
		if isKnown := said.bales[0]&b.Top == said.bales[1]&b.Top; e != api.OK || isKnown != (said.many == 0) || isKnown != (said.opened == 0) {
			t.Fatal(b, said, e)
		}
		if said.many == 0 && b.Top != 0 {
			none++
		}
	}
	if none < 200 || none > 1800 {
		t.Error("too few of one kind", none)
	}
}

// checkClash checks that the tests that are named clash, and that without any one of them they do not (P4); it returns how many there are.
func checkClash(t *testing.T, b api.Burr) int {
	t.Helper()
	set, e := burr.Clash(b)
	if e != api.OK {
		t.Fatal(b, e)
	}
	for left := -1; left < len(b.Tests); left++ {
		if left >= 0 && !has(set, left) {
			continue
		}
		part := tested(b)
		for number, test := range b.Tests {
			if has(set, number) && number != left {
				part.Tests = append(part.Tests, test)
			}
		}
		if many, e := burr.Count(part); e != api.OK || (many == 0) != (left < 0) {
			t.Fatal(b, set, left, many, e)
		}
	}
	return size(set)
}

// P7.9 and P13: the order of tests makes no difference but to their numbers.
func TestOrderOfTests(t *testing.T) {
	r := chance(8)
	clashes := 0
	for range 2000 {
		b, x := anyWool(&r, 1+r.below(api.BurrMobs), r.below(api.BurrBales+1))
		b = anyTests(&r, b, x, r.below(api.BurrTests+1), false)
		other := clone(b)
		slices.Reverse(other.Tests)
		before, e := reportOf(b)
		now, f := reportOf(other)
		if e != f || now != before {
			t.Fatal(b, before, e, now, f)
		}
		if e == api.ErrClash {
			clashes++
			if one, two := checkClash(t, b), checkClash(t, other); one != two {
				t.Fatal(b, one, two)
			}
		}
	}
	if clashes < 200 {
		t.Error("too few clashes", clashes)
	}
}

// turned returns a set if its numbers are in the opposite order.
func turned(set, many int) int {
	other := 0
	for number := range many {
		if has(set, number) {
			other |= 1 << (many - 1 - number)
		}
	}
	return other
}

// turnedBales returns the bales if they are numbered in the opposite order.
func turnedBales(b api.Burr) api.Burr {
	b = clone(b)
	slices.Reverse(b.Bales)
	b.Top = turned(b.Top, len(b.Bales))
	for number, test := range b.Tests {
		b.Tests[number].Bale = len(b.Bales) - 1 - test.Bale
	}
	return b
}

// P7.9 and P13: if bales are numbered otherwise only their numbers change. Of several sets of bales that tell of the top line another one can be returned then, and of several bales that are best opened next.
func TestNumbersOfBales(t *testing.T) {
	r := chance(9)
	others := 0
	for range 3000 {
		b, x := anyWool(&r, 1+r.below(api.BurrMobs), r.below(api.BurrBales+1))
		b = anyTests(&r, b, x, r.below(api.BurrTests+1), false)
		other := turnedBales(b)
		before, e := reportOf(b)
		now, f := reportOf(other)
		if before.opened != turned(now.opened, len(b.Bales)) {
			others++
		}
		now.bales = [2]int{turned(now.bales[0], len(b.Bales)), turned(now.bales[1], len(b.Bales))}
		now.pure = turned(now.pure, len(b.Bales))
		if e == api.OK && !tells(holding(truths(b, everyTest(b))), turned(now.opened, len(b.Bales)), b.Top) {
			t.Fatal(b, before, now)
		}
		now.opened, now.bale = before.opened, before.bale
		if e != f || now != before {
			t.Fatal(b, before, e, now, f)
		}
		set, e := burr.Clash(b)
		if again, f := burr.Clash(other); again != set || e != f {
			t.Fatal(b, set, e, again, f)
		}
	}
	if others < 30 {
		t.Error("too few", others)
	}
}

// P13: if mobs are numbered otherwise only their numbers change.
func TestNumbersOfMobs(t *testing.T) {
	r := chance(10)
	for range 1000 {
		b, x := anyWool(&r, 1+r.below(api.BurrMobs), r.below(api.BurrBales+1))
		b = anyTests(&r, b, x, r.below(api.BurrTests+1), false)
		other := clone(b)
		for number, one := range other.Bales {
			other.Bales[number] = bale(turned(one.Surely, b.Mobs), turned(one.Perhaps, b.Mobs))
		}
		before, e := reportOf(b)
		now, f := reportOf(other)
		now.mobs = [2]int{turned(now.mobs[0], b.Mobs), turned(now.mobs[1], b.Mobs)}
		if e != f || now != before {
			t.Fatal(b, before, e, now, f)
		}
	}
}
