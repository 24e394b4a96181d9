package bean_test

import (
	"reflect"
	"slices"
	"testing"

	"shearworks/api"
	"shearworks/bean"
)

// report is all that can be said of a vote.
type report struct {
	whites        api.Span
	passed, count int
	white         []int   // by voter
	same          [][]int // by both voters
	known         result
	told          []result // by number
	quiet         int
}

// reportOf returns ErrClash if there is no truth.
func reportOf(b api.Bean) (report, api.Errno) {
	var r report
	r.passed, _ = bean.Passed(b)
	r.count, _ = bean.Count(b)
	r.quiet, _ = bean.Quiet(b)
	r.known = fromTwo(bean.Known(b))
	for voter := range b.Voters {
		n, _ := bean.White(b, voter)
		r.white = append(r.white, n)
		var row []int
		for other := range b.Voters {
			n, _ := bean.Same(b, voter, other)
			row = append(row, n)
		}
		r.same = append(r.same, row)
	}
	for number := range b.Voters + 1 {
		r.told = append(r.told, fromTwo(bean.Tell(b, number)))
	}
	var e api.Errno
	r.whites, e = bean.Whites(b)
	return r, e
}

func clone(b api.Bean) api.Bean {
	b.Groups, b.Pairs = slices.Clone(b.Groups), slices.Clone(b.Pairs)
	return b
}

func inSpan(inner, outer api.Span) bool { return outer.Lo <= inner.Lo && inner.Hi <= outer.Hi }

func inSet(inner, outer int) bool { return inner&^outer == 0 }

func asSure(now, before int) bool { return before == api.BeanPerhaps || now == before }

// asKnown tells whether nobody is known less than before; nothing is compared with a number that there cannot be any more.
func asKnown(now, before result) bool {
	return now.e == api.ErrNone || before.e == api.OK && inSet(before.numbers[0], now.numbers[0]) && inSet(before.numbers[1], now.numbers[1])
}

// asExact tells whether nothing is said less exactly than before, and whether there are no more truths.
func asExact(now, before report) bool {
	for voter := range before.same {
		if !slices.EqualFunc(now.same[voter], before.same[voter], asSure) {
			return false
		}
	}
	return inSpan(now.whites, before.whites) && asSure(now.passed, before.passed) && now.count <= before.count &&
		slices.EqualFunc(now.white, before.white, asSure) && asKnown(now.known, before.known) &&
		slices.EqualFunc(now.told, before.told, asKnown)
}

// P3.10 and P2: however all truly voted, what is returned contains it.
func TestWhatIsTrue(t *testing.T) {
	r := chance(2)
	quiet := 0
	for i := range 1500 {
		b, whites := anyVote(&r, 1+i%api.BeanVoters, true)
		if span, e := bean.Whites(b); e != api.OK || !within(size(whites), span) {
			t.Fatal(b, whites, span, e)
		}
		white, black, e := bean.Known(b)
		if e != api.OK || !inSet(white, whites) || black&whites != 0 {
			t.Fatal(b, whites, white, black, e)
		}
		passed, e := bean.Passed(b)
		if e != api.OK || !asSure(sure([]int{whites}, func(w int) bool { return size(w) >= b.Need }), passed) {
			t.Fatal(b, whites, passed, e)
		}
		numbers, e := bean.Quiet(b)
		if e != api.OK {
			t.Fatal(b, whites, e)
		}
		w, l, e := bean.Tell(b, size(whites))
		if e != api.OK || !inSet(w, whites) || l&whites != 0 || has(numbers, size(whites)) != (w == white && l == black) {
			t.Fatal(b, whites, w, l, e)
		}
		if has(numbers, size(whites)) {
			quiet++
		}
	}
	if quiet < 100 {
		t.Error("too few quiet numbers", quiet)
	}
}

// better returns a vote of which one thing more is known, or a number is known better.
func better(r *chance, b api.Bean) api.Bean {
	narrower := func(s api.Span) api.Span {
		lo := r.among(s)
		return span(lo, r.among(span(lo, s.Hi)))
	}
	b = clone(b)
	switch r.below(4) {
	case 0:
		b.Whites = narrower(b.Whites)
	case 1:
		if len(b.Groups) > 0 {
			g := &b.Groups[r.below(len(b.Groups))]
			g.Whites = narrower(g.Whites)
		}
	case 2:
		if len(b.Groups) < api.BeanGroups {
			b.Groups = append(b.Groups, api.BeanGroup{Voters: r.below(1 << b.Voters), Whites: narrower(span(0, b.Voters))})
		}
	case 3:
		if len(b.Pairs) < api.BeanPairs && b.Voters > 1 {
			one := r.below(b.Voters)
			b.Pairs = append(b.Pairs, api.BeanPair{A: one, B: (one + 1) % b.Voters, Same: r.below(2) == 0})
		}
	}
	return b
}

// P3.11: with one thing more that is known, or a number that is known better, nothing is returned less exactly.
func TestKnownBetter(t *testing.T) {
	r := chance(3)
	compared, clashes := 0, 0
	for i := range 800 {
		b, _ := anyVote(&r, 1+i%6, true)
		more := better(&r, b)
		before, e := reportOf(b)
		now, f := reportOf(more)
		if f == api.ErrClash {
			clashes++
			continue
		}
		if !reflect.DeepEqual(now, before) {
			compared++
		}
		if e != api.OK || f != api.OK || !asExact(now, before) {
			t.Fatal(b, more, before, e, now, f)
		}
	}
	if compared < 150 || clashes < 20 {
		t.Error("too few compared", compared, clashes)
	}
}

// turned returns the vote if all beans are of the other colour, and all that is known of them. More white beans than a group has voters become more, too: either way it cannot be right.
func turned(b api.Bean) api.Bean {
	b = clone(b)
	b.Whites = span(b.Voters-b.Whites.Hi, b.Voters-b.Whites.Lo)
	for number, g := range b.Groups {
		voters := size(g.Voters)
		if g.Whites.Lo <= voters {
			b.Groups[number].Whites = span(max(0, voters-g.Whites.Hi), voters-g.Whites.Lo)
		}
	}
	return b
}

// P3.11: if all beans are of the other colour so is all that is returned.
func TestOtherColour(t *testing.T) {
	r := chance(4)
	clashes := 0
	for i := range 600 {
		b, _ := anyVote(&r, 1+i%6, false)
		before, e := reportOf(b)
		other := turned(b)
		if b.Need > 0 {
			other.Need = b.Voters + 1 - b.Need // it is passed if the other one is not
		}
		now, f := reportOf(other)
		set, c := bean.Clash(b)
		otherSet, d := bean.Clash(other)
		if e != f || c != d || set != otherSet {
			t.Fatal(b, other, e, f, c, d, set, otherSet)
		}
		if e != api.OK {
			clashes++
			continue
		}
		checkTurned(t, b, now, before)
	}
	if clashes < 60 || clashes > 400 {
		t.Error("too few of one kind", clashes)
	}
}

func checkTurned(t *testing.T, b api.Bean, now, before report) {
	t.Helper()
	swap := func(x result) result { return fromTwo(x.numbers[1], x.numbers[0], x.e) }
	if b.Need > 0 {
		before.passed = 2 - before.passed
	}
	before.whites = span(b.Voters-before.whites.Hi, b.Voters-before.whites.Lo)
	for voter := range before.white {
		before.white[voter] = 2 - before.white[voter]
	}
	before.known = swap(before.known)
	slices.Reverse(before.told)
	quiet := 0
	for number := range before.told {
		before.told[number] = swap(before.told[number])
		if has(before.quiet, b.Voters-number) {
			quiet |= 1 << number
		}
	}
	before.quiet = quiet
	if !reflect.DeepEqual(now, before) {
		t.Fatal(b, now, before)
	}
}

// P3.11 and P13: the order of what is known makes no difference but to its numbers, nor does that of the voters of a pair.
func TestOrderOfKnown(t *testing.T) {
	r := chance(5)
	clashes := 0
	for i := range 600 {
		b, _ := anyVote(&r, 2+i%5, false)
		other := clone(b)
		slices.Reverse(other.Groups)
		slices.Reverse(other.Pairs)
		for number, p := range other.Pairs {
			other.Pairs[number].A, other.Pairs[number].B = p.B, p.A
		}
		before, e := reportOf(b)
		now, f := reportOf(other)
		if e != f || !reflect.DeepEqual(now, before) {
			t.Fatal(b, before, e, now, f)
		}
		if e == api.ErrClash {
			clashes++
			if a, b := checkClash(t, b), checkClash(t, other); a != b {
				t.Fatal(other, a, b)
			}
		}
	}
	if clashes < 60 {
		t.Error("too few clashes", clashes)
	}
}

// checkClash checks that what is named cannot all be right, but can be without any one thing of it (P4); it returns how many there are.
func checkClash(t *testing.T, b api.Bean) int {
	t.Helper()
	set, e := bean.Clash(b)
	if e != api.OK {
		t.Fatal(b, e)
	}
	for left := -1; left < len(b.Groups)+len(b.Pairs); left++ {
		if left >= 0 && !has(set, left) {
			continue
		}
		part := votes(b.Voters, b.Need, b.Whites.Lo, b.Whites.Hi)
		for number, g := range b.Groups {
			if has(set, number) && number != left {
				part.Groups = append(part.Groups, g)
			}
		}
		for number, p := range b.Pairs {
			if n := len(b.Groups) + number; has(set, n) && n != left {
				part.Pairs = append(part.Pairs, p)
			}
		}
		if many, e := bean.Count(part); e != api.OK || (many == 0) != (left < 0) {
			t.Fatal(b, set, left, many, e)
		}
	}
	return size(set)
}
