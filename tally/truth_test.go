package tally_test

import (
	"math/bits"
	"testing"

	"shearworks/api"
	"shearworks/tally"
)

// chance is a sequence of numbers that is the same in each run.
type chance uint64

func (c *chance) below(n int) int {
	*c = *c*6364136223846793005 + 1442695040888963407
	return int(uint64(*c)>>33) % n
}

// span returns a span within low..high that is at most so wide.
func (c *chance) span(low, high, wide int) api.Span {
	lo := low + c.below(high-low+1)
	return span(lo, min(high, lo+c.below(wide+1)))
}

// truth is how many sheep each has shorn, how many went from each pen to the next one, how many there are in pens then, and which calls are right.
type truth struct {
	shorn, strays, pens [api.TallyShearers]int
	right               int
}

func (t truth) together(first, last int) int {
	many := 0
	for shearer := first; shearer <= last; shearer++ {
		many += t.shorn[shearer]
	}
	return many
}

// count returns what a call counts.
func (t truth) count(c api.TallyCall, shearers int) int {
	switch c.Kind {
	case api.TallyPort:
		return t.shorn[c.At]
	case api.TallyPen:
		return t.pens[c.At]
	}
	return t.together(0, shearers-1)
}

// drive lets sheep stray from pen to pen; it tells whether in none there are fewer than 0.
func (t truth) drive(x api.Tally) (truth, bool) {
	t.pens = t.shorn
	for pen, many := range t.strays[:x.Shearers-1] {
		t.pens[pen] -= many
		t.pens[pen+1] += many
	}
	for _, many := range t.pens {
		if many < 0 {
			return t, false
		}
	}
	for number, c := range x.Calls {
		if many := t.count(c, x.Shearers); c.Sheep.Lo <= many && many <= c.Sheep.Hi {
			t.right |= 1 << number
		}
	}
	return t, true
}

// everyTruth returns each truth that there would be without calls, one by one.
func everyTruth(x api.Tally) (list []truth) {
	var shear, stray func(t truth, n int)
	shear = func(t truth, n int) {
		if n == x.Shearers {
			stray(t, 0)
			return
		}
		for many := 0; many <= x.Most; many++ {
			t.shorn[n] = many
			shear(t, n+1)
		}
	}
	stray = func(t truth, n int) {
		if n == x.Shearers-1 {
			if t, can := t.drive(x); can {
				list = append(list, t)
			}
			return
		}
		for many := x.Strays[n].Lo; many <= x.Strays[n].Hi; many++ {
			t.strays[n] = many
			stray(t, n+1)
		}
	}
	shear(truth{}, 0)
	return list
}

// rightOnes returns the truths in which all calls are right.
func rightOnes(x api.Tally, every []truth) (list []truth) {
	for _, t := range every {
		if t.right == 1<<len(x.Calls)-1 {
			list = append(list, t)
		}
	}
	return list
}

func spanOver(list []truth, of func(t truth) int) api.Span {
	s := exactly(of(list[0]))
	for _, t := range list {
		s.Lo, s.Hi = min(s.Lo, of(t)), max(s.Hi, of(t))
	}
	return s
}

// canBe tells whether the calls of a set are right together in some truth.
func canBe(every []truth, set int) bool {
	for _, t := range every {
		if t.right&set == set {
			return true
		}
	}
	return false
}

// wrongsAmong finds out what wrongsOf says, set by set.
func wrongsAmong(x api.Tally, every []truth) wrongs {
	all := 1<<len(x.Calls) - 1
	w := wrongs{many: -1, e: api.ErrClash, clash: -1, clashes: api.ErrNone}
	for many := 0; many <= len(x.Calls); many++ {
		for set := range all + 1 {
			if bits.OnesCount(uint(set)) != many {
				continue
			}
			if canBe(every, all&^set) && (w.many < 0 || w.many == many) {
				if w.many < 0 {
					w.many, w.calls, w.e = many, set, api.OK
				}
				w.suspects |= set
			}
			if w.clash < 0 && !canBe(every, set) {
				w.clash, w.clashes = set, api.OK
			}
		}
	}
	w.many, w.clash = max(0, w.many), max(0, w.clash)
	return w
}

// anyTally returns a valid tally; its calls mostly are right.
func anyTally(r *chance, limits size) api.Tally {
	x := api.Tally{Shearers: 1 + r.below(api.TallyShearers)}
	x.Most = r.below(limits.most[x.Shearers-1] + 1)
	for range x.Shearers - 1 {
		x.Strays = append(x.Strays, r.span(-api.TallyStray, api.TallyStray, limits.wide[x.Shearers-1]))
	}
	happened, _ := anyTruth(r, x)
	for range r.below(api.TallyCalls + 1) {
		c := api.TallyCall{Kind: r.below(3), At: r.below(x.Shearers)}
		many := happened.count(c, x.Shearers)
		if r.below(6) == 0 {
			many += r.below(5) - 2
		}
		many = max(0, many)
		c.Sheep = span(max(0, many-r.below(2)), min(api.TallySheep, many+r.below(3)))
		x.Calls = append(x.Calls, c)
	}
	return x
}

// anyTruth returns what can have happened, if that is found soon; if not, nothing.
func anyTruth(r *chance, x api.Tally) (truth, bool) {
	for range 50 {
		var t truth
		for shearer := range x.Shearers {
			t.shorn[shearer] = r.below(x.Most + 1)
		}
		for pen, s := range x.Strays {
			t.strays[pen] = s.Lo + r.below(s.Hi-s.Lo+1)
		}
		if t, can := t.drive(x); can {
			return t, true
		}
	}
	return truth{}, false
}

// size is how many sheep each can have shorn at most, and how wide strays are, by how many shearers there are.
type size struct{ most, wide [api.TallyShearers]int }

// small is the size of tallies that have not too many truths to find each of them.
func small() size {
	return size{most: [api.TallyShearers]int{60, 12, 6, 4, 2}, wide: [api.TallyShearers]int{0, 6, 4, 2, 1}}
}

// big is that of all tallies.
func big() size {
	return size{most: [api.TallyShearers]int{60, 60, 60, 60, 60}, wide: [api.TallyShearers]int{6, 6, 6, 6, 6}}
}

// P5.1 to P5.7: what is returned is what all truths, found one by one, say together.
func TestAgainstEachTruth(t *testing.T) {
	r := chance(1)
	clashes, never := 0, 0
	for range 1500 {
		x := anyTally(&r, small())
		every := everyTruth(x)
		if got, want := wrongsOf(x), wrongsAmong(x, every); got != want {
			t.Fatal(x, got, "want", want)
		}
		list := rightOnes(x, every)
		if len(list) > 0 {
			compare(t, x, list)
			compareFits(t, &r, x, list)
			continue
		}
		clashes++
		if len(every) == 0 {
			never++
		}
		for function, got := range callAll(x, 0, x.Shearers-1, fleeces(0, 300)) {
			if !setOnly(function) && got != failed(api.ErrClash) && !(function == "Stray" && x.Shearers == 1) {
				t.Fatal(x, function, got)
			}
		}
	}
	if clashes < 300 || clashes > 1000 || never < 20 {
		t.Error("clashes", clashes, never)
	}
}

func compare(t *testing.T, x api.Tally, list []truth) {
	t.Helper()
	same := func(name string, at int, got result, of func(t truth) int) {
		t.Helper()
		want := spanOver(list, of)
		if got != fromSpan(want, api.OK) {
			t.Fatal(x, name, at, got, "want", want)
		}
		for n := want.Lo; n <= want.Hi; n++ { // P5.7: all integers of a span are those of a truth
			if !hasNumber(list, of, n) {
				t.Fatal(x, name, at, want, "without", n)
			}
		}
	}
	for n := range x.Shearers {
		same("Shorn", n, fromSpan(tally.Shorn(x, n)), func(t truth) int { return t.shorn[n] })
		same("Pen", n, fromSpan(tally.Pen(x, n)), func(t truth) int { return t.pens[n] })
		if n < x.Shearers-1 {
			same("Stray", n, fromSpan(tally.Stray(x, n)), func(t truth) int { return t.strays[n] })
		}
		for last := n; last < x.Shearers; last++ {
			same("Together", n*10+last, fromSpan(tally.Together(x, n, last)), func(t truth) int { return t.together(n, last) })
		}
	}
}

func hasNumber(list []truth, of func(t truth) int, n int) bool {
	for _, t := range list {
		if of(t) == n {
			return true
		}
	}
	return false
}

func compareFits(t *testing.T, r *chance, x api.Tally, list []truth) {
	t.Helper()
	for range 6 {
		c := api.TallyCall{Kind: r.below(3), At: r.below(x.Shearers)}
		c.Sheep = r.span(0, x.Shearers*x.Most+3, 6)
		right := 0
		for _, one := range list {
			if many := one.count(c, x.Shearers); c.Sheep.Lo <= many && many <= c.Sheep.Hi {
				right++
			}
		}
		want := api.TallyPerhaps
		switch right {
		case 0:
			want = api.TallyNever
		case len(list):
			want = api.TallyAlways
		}
		if got := fromInt(tally.Fits(x, c)); got != fromInt(want, api.OK) {
			t.Fatal(x, c, got, "want", want)
		}
	}
}
