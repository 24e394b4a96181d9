package bean_test

import (
	"testing"

	"shearworks/api"
	"shearworks/bean"
)

func span(lo, hi int) api.Span { return api.Span{Lo: lo, Hi: hi} }

func group(voters, lo, hi int) api.BeanGroup {
	return api.BeanGroup{Voters: voters, Whites: span(lo, hi)}
}

func same(a, b int) api.BeanPair { return api.BeanPair{A: a, B: b, Same: true} }

func differ(a, b int) api.BeanPair { return api.BeanPair{A: a, B: b} }

// votes returns a vote of which nothing is known but the span of white beans.
func votes(voters, need, lo, hi int) api.Bean {
	return api.Bean{Voters: voters, Need: need, Whites: span(lo, hi)}
}

func grouped(b api.Bean, groups ...api.BeanGroup) api.Bean {
	b.Groups = groups
	return b
}

func paired(b api.Bean, pairs ...api.BeanPair) api.Bean {
	b.Pairs = pairs
	return b
}

// voteV, voteK and voteN return the votes of the chapter's examples.
func voteV() api.Bean {
	return paired(grouped(votes(5, 3, 2, 3), group(7, 2, 3), group(28, 0, 1)), same(0, 1))
}

func voteK() api.Bean {
	b := voteV()
	b.Groups = append(b.Groups, group(24, 1, 1))
	return b
}

func voteN() api.Bean {
	b := voteK()
	b.Pairs = append(b.Pairs, same(0, 2))
	return b
}

// chain is four voters, each joined to the next one: 0 and 1 did not give the same, nor did 2 and 3.
func chain() api.Bean {
	return paired(votes(4, 2, 0, 4), differ(0, 1), differ(3, 2), same(1, 2))
}

// couples is eight voters, of whom each two did not give the same, and one of each group of two couples gave a white bean at least.
func couples() api.Bean {
	b := paired(votes(8, 4, 0, 8), differ(0, 1), differ(2, 3), differ(4, 5), differ(6, 7))
	return grouped(b, group(0b0101, 1, 2), group(0b01010000, 1, 1))
}

// P3.1: the span of white beans.
func TestWhites(t *testing.T) {
	for i, x := range []struct {
		b    api.Bean
		want api.Span
	}{
		{voteV(), span(2, 3)},
		{voteK(), span(3, 3)},
		{votes(1, 0, 0, 1), span(0, 1)},
		{votes(8, 8, 0, 8), span(0, 8)},
		{votes(8, 8, 3, 5), span(3, 5)},
		{chain(), span(2, 2)},
		{couples(), span(4, 4)},
		{paired(votes(4, 2, 1, 3), same(0, 1), same(2, 3)), span(2, 2)},
		{paired(votes(5, 2, 0, 5), same(0, 1), same(2, 1), differ(3, 4)), span(1, 4)},
		{grouped(votes(5, 2, 0, 5), group(3, 1, 1), group(6, 2, 8)), span(2, 4)},
		{grouped(votes(5, 2, 0, 5), group(0, 0, 8)), span(0, 5)},
		{grouped(votes(5, 2, 0, 5), group(31, 2, 8)), span(2, 5)},
		{grouped(votes(5, 2, 0, 5), group(31, 0, 0)), span(0, 0)},
	} {
		if got, e := bean.Whites(x.b); got != x.want || e != api.OK {
			t.Error(i, got, e, "want", x.want)
		}
	}
}

// P3.2: whether a voter gave a white bean; P3.3: whose beans are known.
func TestWhiteAndKnown(t *testing.T) {
	for i, x := range []struct {
		b            api.Bean
		want         []int
		white, black int
	}{
		{voteV(), []int{2, 2, 1, 1, 1}, 3, 0},
		{voteK(), []int{2, 2, 0, 1, 1}, 3, 4},
		{votes(1, 1, 0, 0), []int{0}, 0, 1},
		{votes(1, 1, 1, 1), []int{2}, 1, 0},
		{votes(1, 1, 0, 1), []int{1}, 0, 0},
		{votes(8, 1, 8, 8), []int{2, 2, 2, 2, 2, 2, 2, 2}, 255, 0},
		{votes(8, 1, 1, 7), []int{1, 1, 1, 1, 1, 1, 1, 1}, 0, 0},
		{chain(), []int{1, 1, 1, 1}, 0, 0},
		{grouped(chain(), group(8, 1, 1)), []int{2, 0, 0, 2}, 9, 6},
		// One of three that gave the same is found out by how many are white.
		{paired(votes(4, 1, 1, 2), same(0, 1), same(1, 2)), []int{0, 0, 0, 2}, 8, 7},
		{grouped(votes(3, 1, 0, 3), group(3, 1, 1), group(6, 2, 2)), []int{0, 2, 2}, 6, 1},
	} {
		for voter, want := range x.want {
			if got, e := bean.White(x.b, voter); got != want || e != api.OK {
				t.Error(i, voter, got, e, "want", want)
			}
		}
		if white, black, e := bean.Known(x.b); white != x.white || black != x.black || e != api.OK {
			t.Error(i, white, black, e)
		}
	}
}

// P3.4: whether the vote is passed.
func TestPassed(t *testing.T) {
	for i, x := range []struct {
		b    api.Bean
		want int
	}{
		{voteV(), api.BeanPerhaps},
		{voteK(), api.BeanAlways},
		{votes(5, 0, 0, 5), api.BeanAlways},
		{votes(5, 1, 0, 5), api.BeanPerhaps},
		{votes(5, 2, 2, 3), api.BeanAlways},
		{votes(5, 3, 2, 3), api.BeanPerhaps},
		{votes(5, 4, 2, 3), api.BeanNever},
		{votes(5, 5, 0, 5), api.BeanPerhaps},
		{votes(5, 5, 5, 5), api.BeanAlways},
		// Not what the span says, but what is known too.
		{paired(votes(4, 2, 1, 3), same(0, 1), same(2, 3)), api.BeanAlways},
		{paired(votes(4, 3, 1, 3), same(0, 1), same(2, 3)), api.BeanNever},
	} {
		if got, e := bean.Passed(x.b); got != x.want || e != api.OK {
			t.Error(i, got, e, "want", x.want)
		}
	}
}

// P3.5: whether two voters gave the same beans.
func TestSame(t *testing.T) {
	for i, x := range []struct {
		b                  api.Bean
		voter, other, want int
	}{
		{voteV(), 0, 1, api.BeanAlways},
		{voteV(), 3, 4, api.BeanPerhaps},
		{voteK(), 3, 4, api.BeanNever},
		{voteK(), 0, 2, api.BeanNever},
		{chain(), 0, 3, api.BeanAlways},
		{chain(), 0, 2, api.BeanNever},
		{chain(), 1, 3, api.BeanNever},
		{votes(3, 0, 0, 3), 0, 2, api.BeanPerhaps},
		{votes(3, 0, 3, 3), 0, 2, api.BeanAlways},
		{votes(2, 0, 1, 1), 0, 1, api.BeanNever},
		// Nobody is known, and yet two surely gave the same, by groups alone.
		{grouped(votes(3, 0, 0, 3), group(3, 1, 1), group(6, 1, 1)), 0, 2, api.BeanAlways},
		// A voter gave the same as itself.
		{voteV(), 2, 2, api.BeanAlways},
		{votes(1, 0, 0, 1), 0, 0, api.BeanAlways},
		{couples(), 7, 7, api.BeanAlways},
	} {
		for _, voters := range [][2]int{{x.voter, x.other}, {x.other, x.voter}} {
			if got, e := bean.Same(x.b, voters[0], voters[1]); got != x.want || e != api.OK {
				t.Error(i, voters, got, e, "want", x.want)
			}
		}
	}
}

// P3.6: how many truths there are.
func TestCount(t *testing.T) {
	for i, x := range []struct {
		b    api.Bean
		want int
	}{
		{voteV(), 4},
		{voteK(), 2},
		{voteN(), 0},
		{votes(1, 0, 0, 1), 2},
		{votes(8, 0, 0, 8), 256},
		{votes(8, 0, 4, 4), 70},
		{votes(8, 0, 0, 0), 1},
		{chain(), 2},
		{couples(), 6},
		{grouped(votes(3, 0, 0, 3), group(0, 1, 8)), 0},
		{grouped(votes(3, 0, 0, 3), group(0, 0, 8)), 8},
		{grouped(votes(3, 0, 0, 3), group(3, 3, 8)), 0},
		{paired(votes(3, 0, 0, 3), same(0, 1), same(1, 0)), 4},
		{paired(votes(3, 0, 0, 3), same(0, 1), differ(1, 0)), 0},
		{paired(votes(3, 0, 0, 3), differ(0, 1), differ(1, 2), differ(2, 0)), 0},
	} {
		if got, e := bean.Count(x.b); got != x.want || e != api.OK {
			t.Error(i, got, e, "want", x.want)
		}
	}
}

// P3.7: whose beans would be known if a number were told.
func TestTell(t *testing.T) {
	for i, x := range []struct {
		b                    api.Bean
		whites, white, black int
		e                    api.Errno
	}{
		{voteV(), 2, 3, 28, api.OK},
		{voteV(), 3, 3, 0, api.OK},
		{voteV(), 4, 0, 0, api.ErrNone},
		{voteV(), 1, 0, 0, api.ErrNone},
		{voteV(), 0, 0, 0, api.ErrNone},
		{voteV(), 5, 0, 0, api.ErrNone},
		{voteK(), 2, 0, 0, api.ErrNone}, // it is in the span, but in no truth
		{voteK(), 3, 3, 4, api.OK},
		{votes(8, 0, 0, 8), 0, 0, 255, api.OK},
		{votes(8, 0, 0, 8), 8, 255, 0, api.OK},
		{votes(8, 0, 0, 8), 4, 0, 0, api.OK},
		{paired(votes(3, 0, 0, 3), same(0, 1)), 1, 4, 3, api.OK},
		{paired(votes(3, 0, 0, 3), same(0, 1)), 2, 3, 4, api.OK},
		{chain(), 2, 0, 0, api.OK},
		{chain(), 1, 0, 0, api.ErrNone},
	} {
		if white, black, e := bean.Tell(x.b, x.whites); white != x.white || black != x.black || e != x.e {
			t.Error(i, white, black, e)
		}
	}
}

// P3.8: which numbers can be told.
func TestQuiet(t *testing.T) {
	for i, x := range []struct {
		b    api.Bean
		want int
	}{
		{voteV(), 8},
		{voteK(), 8},
		{votes(1, 0, 0, 1), 0},
		{votes(1, 0, 1, 1), 2},
		{votes(2, 0, 0, 2), 2},
		{votes(8, 0, 0, 8), 254},
		{votes(8, 0, 3, 8), 248 &^ 256},
		{votes(8, 0, 8, 8), 256},
		{votes(8, 0, 0, 0), 1},
		{chain(), 4},
		{couples(), 16},
		{paired(votes(3, 0, 0, 3), same(0, 1)), 0},
		// Whoever is known without any number can be.
		{grouped(votes(4, 0, 0, 4), group(1, 1, 1)), 4 | 8},
	} {
		if got, e := bean.Quiet(x.b); got != x.want || e != api.OK {
			t.Error(i, got, e, "want", x.want)
		}
	}
}

// P3.9: the fewest things that cannot all be right, and of several the least number.
func TestClash(t *testing.T) {
	free := votes(4, 0, 0, 4)
	for i, x := range []struct {
		b    api.Bean
		want int
	}{
		{voteN(), 28},
		{grouped(free, group(0, 1, 8)), 1},
		{grouped(free, group(15, 0, 4), group(1, 2, 8)), 2},
		// The span of white beans always holds.
		{grouped(votes(4, 0, 0, 1), group(3, 2, 2)), 1},
		{grouped(votes(4, 0, 1, 2), group(1, 1, 1), group(2, 1, 1), group(4, 1, 1), group(8, 1, 1)), 7},
		{paired(votes(2, 0, 1, 1), same(0, 1)), 1},
		{paired(grouped(votes(2, 0, 1, 1), group(3, 0, 2), group(3, 1, 1)), differ(0, 1), same(0, 1)), 8},
		// Pairs are numbered behind the groups.
		{paired(free, differ(0, 1), differ(1, 2), differ(2, 0)), 7},
		{paired(grouped(free, group(0, 0, 0)), differ(0, 1), differ(1, 2), differ(2, 0)), 14},
		{paired(free, same(2, 3), same(0, 1), differ(1, 0)), 6},
		{paired(grouped(free, group(3, 1, 1)), same(0, 1), differ(0, 1)), 3},
		// Fewer things come before a lesser number.
		{paired(free, same(0, 1), same(1, 2), differ(0, 2), differ(0, 1)), 9},
		{grouped(free, group(3, 2, 2), group(6, 0, 0), group(4, 0, 1), group(5, 3, 8)), 8},
		// Of as few the least number is meant.
		{grouped(free, group(1, 0, 0), group(1, 0, 0), group(1, 1, 1), group(1, 1, 1)), 5},
		{grouped(free, group(1, 2, 2), group(2, 2, 2)), 1},
		{paired(grouped(free, group(1, 1, 1), group(2, 1, 1), group(4, 0, 0), group(8, 0, 0)), same(0, 1), same(0, 2), same(1, 3)), 37},
	} {
		if got, e := bean.Clash(x.b); got != x.want || e != api.OK {
			t.Error(i, got, e, "want", x.want)
		}
	}
	for i, b := range []api.Bean{voteV(), voteK(), free, chain(), couples(), votes(1, 1, 0, 0)} {
		if got, e := bean.Clash(b); got != 0 || e != api.ErrNone {
			t.Error(i, got, e)
		}
	}
}
