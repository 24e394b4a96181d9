package bean_test

import (
	"math/bits"
	"testing"

	"shearworks/api"
	"shearworks/bean"
)

// chance is a sequence of numbers that is the same in each run.
type chance uint64

func (c *chance) below(n int) int {
	*c = *c*6364136223846793005 + 1442695040888963407
	return int(uint64(*c)>>33) % n
}

// among returns a number of a span.
func (c *chance) among(s api.Span) int { return s.Lo + c.below(s.Hi-s.Lo+1) }

// around returns a span within low..high that contains n.
func (c *chance) around(n, low, high, wide int) api.Span {
	return span(max(low, n-c.below(wide+1)), min(high, n+c.below(wide+1)))
}

func size(set int) int { return bits.OnesCount(uint(set)) }

func has(set, n int) bool { return set>>n&1 == 1 }

func within(n int, s api.Span) bool { return s.Lo <= n && n <= s.Hi }

// rightIn returns the set of the things known that are right if a set of voters gave the white beans, word for word as the chapter says it.
func rightIn(b api.Bean, whites int) int {
	right := 0
	for number, g := range b.Groups {
		if within(size(g.Voters&whites), g.Whites) {
			right |= 1 << number
		}
	}
	for number, p := range b.Pairs {
		if (has(whites, p.A) == has(whites, p.B)) == p.Same {
			right |= 1 << (len(b.Groups) + number)
		}
	}
	return right
}

// truths returns who gave the white beans in each truth, if just a set of what is known is right.
func truths(b api.Bean, known int) (list []int) {
	for whites := range 1 << b.Voters {
		if within(size(whites), b.Whites) && rightIn(b, whites)&known == known {
			list = append(list, whites)
		}
	}
	return list
}

// all is the set of all that is known.
func all(b api.Bean) int { return 1<<(len(b.Groups)+len(b.Pairs)) - 1 }

func sure(list []int, is func(whites int) bool) int {
	many := 0
	for _, whites := range list {
		if is(whites) {
			many++
		}
	}
	switch many {
	case 0:
		return api.BeanNever
	case len(list):
		return api.BeanAlways
	}
	return api.BeanPerhaps
}

// knownIn returns the sets of those who gave a white bean in each truth, and of those who gave a black one.
func knownIn(b api.Bean, list []int) (white, black int) {
	for voter := range b.Voters {
		switch sure(list, func(whites int) bool { return has(whites, voter) }) {
		case api.BeanAlways:
			white |= 1 << voter
		case api.BeanNever:
			black |= 1 << voter
		}
	}
	return white, black
}

// telling returns the truths with so many white beans.
func telling(list []int, number int) (left []int) {
	for _, whites := range list {
		if size(whites) == number {
			left = append(left, whites)
		}
	}
	return left
}

// fewestOf returns the fewest things known that are right together in no truth, of several the least number.
func fewestOf(b api.Bean) int {
	best := all(b)
	for known := all(b); known >= 0; known-- {
		if len(truths(b, known)) == 0 && size(known) <= size(best) {
			best = known
		}
	}
	return best
}

// compare checks what each function returns of a vote, by all its truths; it tells whether there is one.
func compare(t *testing.T, b api.Bean) bool {
	t.Helper()
	list := truths(b, all(b))
	want := func(name string, got, want result) {
		t.Helper()
		if got != want {
			t.Fatal(b, name, got, "want", want)
		}
	}
	want("Count", fromInt(bean.Count(b)), fromInt(len(list), api.OK))
	if len(list) == 0 {
		want("Clash", fromInt(bean.Clash(b)), fromInt(fewestOf(b), api.OK))
		want("Known", fromTwo(bean.Known(b)), failed(api.ErrClash))
		return false
	}
	want("Clash", fromInt(bean.Clash(b)), failed(api.ErrNone))
	whites := span(b.Voters, 0)
	for _, w := range list {
		whites.Lo, whites.Hi = min(whites.Lo, size(w)), max(whites.Hi, size(w))
	}
	want("Whites", fromSpan(bean.Whites(b)), fromSpan(whites, api.OK))
	want("Passed", fromInt(bean.Passed(b)), fromInt(sure(list, func(w int) bool { return size(w) >= b.Need }), api.OK))
	white, black := knownIn(b, list)
	want("Known", fromTwo(bean.Known(b)), fromTwo(white, black, api.OK))
	for voter := range b.Voters {
		want("White", fromInt(bean.White(b, voter)), fromInt(sure(list, func(w int) bool { return has(w, voter) }), api.OK))
		for other := range b.Voters {
			want("Same", fromInt(bean.Same(b, voter, other)), fromInt(sure(list, func(w int) bool { return has(w, voter) == has(w, other) }), api.OK))
		}
	}
	quiet := 0
	for number := range b.Voters + 1 {
		left := telling(list, number)
		if len(left) == 0 {
			want("Tell", fromTwo(bean.Tell(b, number)), failed(api.ErrNone))
			continue
		}
		w, l := knownIn(b, left)
		want("Tell", fromTwo(bean.Tell(b, number)), fromTwo(w, l, api.OK))
		if w == white && l == black {
			quiet |= 1 << number
		}
	}
	want("Quiet", fromInt(bean.Quiet(b)), fromInt(quiet, api.OK))
	return true
}

// anyVote returns a valid vote, and who gave white beans; what is known of it mostly is right, or all of it, if it is sound.
func anyVote(r *chance, voters int, sound bool) (api.Bean, int) {
	whites := r.below(1 << voters)
	b := api.Bean{Voters: voters, Need: r.below(voters + 1), Whites: r.around(size(whites), 0, voters, voters)}
	wrong := func() bool { return !sound && r.below(5) == 0 }
	for range r.below(api.BeanGroups + 1) {
		set := r.below(1 << voters)
		many := size(set & whites)
		if wrong() {
			many = r.below(api.BeanVoters + 1)
		}
		b.Groups = append(b.Groups, api.BeanGroup{Voters: set, Whites: r.around(many, 0, api.BeanVoters, 2)})
	}
	if voters == 1 {
		return b, whites
	}
	for range r.below(api.BeanPairs + 1) {
		one := r.below(voters)
		other := (one + 1 + r.below(voters-1)) % voters
		alike := has(whites, one) == has(whites, other)
		b.Pairs = append(b.Pairs, api.BeanPair{A: one, B: other, Same: alike != wrong()})
	}
	return b, whites
}

// P3.1 to P3.9: what is returned is what all truths, found one by one, say together.
func TestAgainstEachTruth(t *testing.T) {
	r := chance(1)
	clashes := 0
	const tries = 2000
	for i := range tries {
		b, _ := anyVote(&r, 1+i%6, false)
		if !compare(t, b) {
			clashes++
		}
	}
	for range tries / 10 {
		b, _ := anyVote(&r, 7+r.below(2), false)
		compare(t, b)
	}
	if clashes < 200 || clashes > tries-200 {
		t.Error("too few of one kind", clashes)
	}
}

// P3.1 to P3.9, for all that can be known, of one group and one pair, of three voters at most.
func TestEachSmallVote(t *testing.T) {
	for voters := 1; voters <= 3; voters++ {
		pairs := []api.BeanPair{}
		for one := range voters {
			for other := range one {
				pairs = append(pairs, same(one, other), differ(other, one))
			}
		}
		for lo := range voters + 1 {
			for hi := lo; hi <= voters; hi++ {
				for set := range 1 << voters {
					for number := range 16 {
						b := grouped(votes(voters, lo, lo, hi), group(set, number/4, max(number/4, number%4)))
						compare(t, b)
						for _, p := range pairs {
							compare(t, paired(b, p))
						}
					}
				}
			}
		}
	}
}

// The greatest votes of all: eight voters, with as much known as there can be.
func TestGreatestVotes(t *testing.T) {
	b := grouped(votes(8, 4, 0, 8), group(0x0f, 1, 8), group(0x3c, 0, 3), group(0xf0, 1, 3), group(0xaa, 0, 8))
	if !compare(t, b) {
		t.Error("there is a truth")
	}
	b = paired(b, same(0, 7), differ(1, 6), same(2, 5), differ(3, 4))
	if !compare(t, b) {
		t.Error("there is a truth")
	}
	b.Groups[3] = group(0x55, 4, 4)
	b.Whites = span(8, 8)
	if compare(t, b) {
		t.Error("there is no truth")
	}
}
