package classer_test

import (
	"math/bits"
	"testing"

	"shearworks/api"
	"shearworks/classer"
)

// chance is a sequence of numbers that is the same in each run.
type chance uint64

func (c *chance) below(n int) int {
	*c = *c*6364136223846793005 + 1442695040888963407
	return int(uint64(*c)>>33) % n
}

// counts is how many fleeces of each bale are wrong, or how many looks at each were mistaken.
type counts [api.ClassBales]int

// total returns how many there are in the bales of a set.
func (c counts) total(set int) int {
	all := 0
	for bale, n := range c {
		all += n * (set >> bale & 1)
	}
	return all
}

// truth is what is so in each bale.
type truth struct{ wrong, mistakes counts }

// possible is what can be so in one bale.
type possible struct{ wrong, mistakes int }

// everyBale returns what can be so in a bale, by all ways in which its fleeces can be wrong. Those that were looked at are the first ones, and of these the first ones were found to be wrong.
func everyBale(b api.ClassBale) (list []possible) {
	seen := map[possible]bool{}
	looked, found := 1<<b.Looked-1, 1<<b.Wrong-1
	for wrong := range 1 << b.Fleeces {
		p := possible{bits.OnesCount(uint(wrong)), bits.OnesCount(uint((wrong ^ found) & looked))}
		if !seen[p] {
			seen[p] = true
			list = append(list, p)
		}
	}
	return list
}

// everyTruth returns each truth that there would be if any number of looks may have been mistaken, but for those in which the same is so in each bale.
func everyTruth(c api.Classer) (list []truth) {
	var follow func(t truth, bale int)
	follow = func(t truth, bale int) {
		if bale == len(c.Bales) {
			list = append(list, t)
			return
		}
		for _, p := range everyBale(c.Bales[bale]) {
			if bale > 0 && max(p.wrong-t.wrong[bale-1], t.wrong[bale-1]-p.wrong) > c.Drift {
				continue
			}
			t.wrong[bale], t.mistakes[bale] = p.wrong, p.mistakes
			follow(t, bale+1)
		}
	}
	follow(truth{}, 0)
	return list
}

// everything is the set of all bales.
const everything = 1<<api.ClassBales - 1

// withFew returns the truths in which so many looks at most were mistaken, of those at the bales of a set.
func withFew(list []truth, mistakes, set int) (few []truth) {
	for _, t := range list {
		if t.mistakes.total(set) <= mistakes {
			few = append(few, t)
		}
	}
	return few
}

func spanOver(list []truth, of func(t truth) int) api.Span {
	s := exactly(of(list[0]))
	for _, t := range list {
		s.Lo, s.Hi = min(s.Lo, of(t)), max(s.Hi, of(t))
	}
	return s
}

// howOften returns in how many of the truths something is so.
func howOften(list []truth, is func(t truth) bool) int {
	many := 0
	for _, t := range list {
		if is(t) {
			many++
		}
	}
	return many
}

func howSure(list []truth, is func(t truth) bool) int {
	switch howOften(list, is) {
	case 0:
		return api.ClassNever
	case len(list):
		return api.ClassAlways
	}
	return api.ClassPerhaps
}

// looksAmong finds out what looks says, set by set.
func looksAmong(c api.Classer, every []truth) looks {
	l := looks{mistaken: 1 << 20, e: api.ErrNone}
	for _, t := range every {
		l.mistaken = min(l.mistaken, t.mistakes.total(everything))
	}
	for set := range 1 << len(c.Bales) {
		smaller := l.e != api.OK || bits.OnesCount(uint(set)) < bits.OnesCount(uint(l.clash))
		if smaller && len(withFew(every, c.Mistakes, set)) == 0 {
			l.clash, l.e = set, api.OK
		}
	}
	return l
}

// moreAmong finds out how many more fleeces have to be looked at, one by one.
func moreAmong(c api.Classer, bale int) (int, api.Errno) {
	keeps := func(t truth) bool { return t.wrong[bale] <= c.May }
	for fleeces := 0; c.Bales[bale].Looked <= c.Bales[bale].Fleeces; fleeces++ {
		list := withFew(everyTruth(c), c.Mistakes, everything)
		if howOften(list, keeps) == len(list) {
			return fleeces, api.OK
		}
		c = clone(c)
		c.Bales[bale].Looked++
	}
	return 0, api.ErrNone
}

// anyLine returns a valid line, whose bales have at most so many fleeces, by how many bales there are; its looks mostly can be as they are.
func anyLine(r *chance, most [api.ClassBales]int) api.Classer {
	var c api.Classer
	many := 1 + r.below(api.ClassBales)
	c.Drift = r.below(most[many-1]/2 + 1)
	c.Mistakes = r.below(min(api.ClassMistakes, most[many-1]/2) + 1)
	c.May = r.below(most[many-1] + 1)
	wrong := r.below(most[many-1] + 1)
	for range many {
		b := api.ClassBale{Fleeces: 1 + r.below(most[many-1])}
		b.Looked = r.below(b.Fleeces + 1)
		if r.below(2) == 0 {
			b.Looked = b.Fleeces - b.Looked/3
		}
		wrong = max(0, wrong+r.below(2*c.Drift+1)-c.Drift)
		if r.below(8) == 0 {
			wrong += r.below(3)
		}
		b.Wrong = min(b.Looked, wrong*b.Looked/b.Fleeces)
		c.Bales = append(c.Bales, b)
	}
	return c
}

// small is how many fleeces there are in bales of which each truth can be found, by how many bales there are.
func small() [api.ClassBales]int { return [api.ClassBales]int{9, 7, 5, 3, 2, 2} }

func big() [api.ClassBales]int { return [api.ClassBales]int{30, 30, 30, 30, 30, 30} }

// P6.1 to P6.6: what is returned is what all truths, found one by one, say together.
func TestAgainstEachTruth(t *testing.T) {
	r := chance(1)
	clashes, left := 0, 0
	for range 1500 {
		if compareTruths(t, anyLine(&r, small())) {
			left++
		} else {
			clashes++
		}
	}
	if clashes < 150 || left < 700 {
		t.Error("clashes", clashes, left)
	}
}

// P6.1 to P6.6 of all lines of one or two bales with two fleeces at most.
func TestEveryLineOfFewFleeces(t *testing.T) {
	var bales []api.ClassBale
	for fleeces := range 3 {
		for looked := range fleeces + 1 {
			for wrong := range looked + 1 {
				bales = append(bales, bale(fleeces, looked, wrong))
			}
		}
	}
	for _, first := range bales[1:] { // the one before has no fleeces
		for _, last := range bales {
			for n := range 27 {
				c := line(n%3, n/3%3, n/9, first, last)
				if last.Fleeces == 0 {
					c.Bales = c.Bales[:1]
				}
				compareTruths(t, c)
			}
		}
	}
}

// compareTruths tells whether there is a truth.
func compareTruths(t *testing.T, c api.Classer) bool {
	t.Helper()
	every := everyTruth(c)
	var got looks
	got.mistaken, _ = classer.Mistaken(c)
	got.clash, got.e = classer.Clash(c)
	if want := looksAmong(c, every); got != want {
		t.Fatal(c, got, "want", want)
	}
	list := withFew(every, c.Mistakes, everything)
	if len(list) > 0 {
		compareBales(t, c, list)
		compareLine(t, c, list)
		return true
	}
	for function, got := range callAll(c, 0) {
		if !looksOnly(function) && got != failed(api.ErrClash) {
			t.Fatal(c, function, got)
		}
	}
	return false
}

func compareBales(t *testing.T, c api.Classer, list []truth) {
	t.Helper()
	for bale := range c.Bales {
		wrong := spanOver(list, func(t truth) int { return t.wrong[bale] })
		if got, e := classer.Wrong(c, bale); got != wrong || e != api.OK {
			t.Fatal(c, bale, got, e, "want", wrong)
		}
		keeps := howSure(list, func(t truth) bool { return t.wrong[bale] <= c.May })
		if got, e := classer.Keeps(c, bale); got != keeps || e != api.OK {
			t.Fatal(c, bale, got, e, "want", keeps)
		}
		more, f := moreAmong(c, bale)
		if got, e := classer.More(c, bale); got != more || e != f {
			t.Fatal(c, bale, got, e, "want", more, f)
		}
	}
}

func compareLine(t *testing.T, c api.Classer, list []truth) {
	t.Helper()
	all := spanOver(list, func(t truth) int { return t.wrong.total(everything) })
	if got, e := classer.All(c); got != all || e != api.OK {
		t.Fatal(c, got, e, "want", all)
	}
	keepAll := func(t truth) bool {
		for _, wrong := range t.wrong {
			if wrong > c.May {
				return false
			}
		}
		return true
	}
	sure := howSure(list, keepAll)
	if got, e := classer.Line(c); got != sure || e != api.OK {
		t.Fatal(c, got, e, "want", sure)
	}
	proof, f := 0, api.ErrNone
	for bale := len(c.Bales) - 1; bale >= 0; bale-- {
		if howOften(list, func(t truth) bool { return t.wrong[bale] <= c.May }) == 0 {
			proof, f = bale, api.OK
		}
	}
	if got, e := classer.Proof(c); got != proof || e != f {
		t.Fatal(c, got, e, "want", proof, f)
	}
}
