package burr_test

import (
	"math/bits"
	"slices"
	"testing"

	"shearworks/api"
)

// chance is a sequence of numbers that is the same in each run.
type chance uint64

func (c *chance) below(n int) int {
	*c = *c*6364136223846793005 + 1442695040888963407
	return int(uint64(*c)>>33) % n
}

func size(set int) int { return bits.OnesCount(uint(set)) }

func has(set, n int) bool { return set>>n&1 == 1 }

func within(n int, s api.Span) bool { return s.Lo <= n && n <= s.Hi }

// truth is the mobs that were in burrs, and the bales that hold one.
type truth struct{ mobs, bales int }

// canHold tells whether bales can hold a burr, word for word as the chapter says it.
func canHold(b api.Burr, x truth) bool {
	for number, bale := range b.Bales {
		holds := has(x.bales, number)
		if bale.Surely&x.mobs != 0 && !holds || bale.Perhaps&x.mobs == 0 && holds {
			return false
		}
	}
	return within(size(x.mobs), b.Burred)
}

// rightIn returns the set of the tests that are right.
func rightIn(b api.Burr, x truth) int {
	right := 0
	for number, t := range b.Tests {
		if has(x.bales, t.Bale) == t.Found {
			right |= 1 << number
		}
	}
	return right
}

// truths returns each truth, if just a set of tests is right.
func truths(b api.Burr, tests int) (list []truth) {
	for mobs := range 1 << b.Mobs {
		for bales := range 1 << len(b.Bales) {
			if x := (truth{mobs, bales}); canHold(b, x) && rightIn(b, x)&tests == tests {
				list = append(list, x)
			}
		}
	}
	return list
}

func everyTest(b api.Burr) int { return 1<<len(b.Tests) - 1 }

// inEach returns what is in all sets, and inSome what is in one at least.
func inEach(list []truth, of func(truth) int) int {
	all := -1
	for _, x := range list {
		all &= of(x)
	}
	return all
}

func inSome(list []truth, of func(truth) int) int {
	all := 0
	for _, x := range list {
		all |= of(x)
	}
	return all
}

func mobsOf(x truth) int { return x.mobs }

func balesOf(x truth) int { return x.bales }

// holding returns the different sets of bales that hold a burr.
func holding(list []truth) (sets []int) {
	for _, x := range list {
		if !slices.Contains(sets, x.bales) {
			sets = append(sets, x.bales)
		}
	}
	return sets
}

// tells tells whether some bales tell of the top line.
func tells(sets []int, bales, top int) bool {
	for _, one := range sets {
		for _, other := range sets {
			if one&bales == other&bales && one&top != other&top {
				return false
			}
		}
	}
	return true
}

// least returns the least of all sets of so many that suits, one with the fewest.
func least(many int, suits func(set int) bool) int {
	best := -1
	for set := range 1 << many {
		if (best < 0 || size(set) < size(best)) && suits(set) {
			best = set
		}
	}
	return best
}

// count returns how many truths suit.
func count(list []truth, suits func(truth) bool) int {
	many := 0
	for _, x := range list {
		if suits(x) {
			many++
		}
	}
	return many
}

// howSure returns in which of the truths something is so.
func howSure(list []truth, is func(truth) bool) int {
	switch count(list, is) {
	case 0:
		return api.BurrNever
	case len(list):
		return api.BurrAlways
	}
	return api.BurrPerhaps
}

// bestNext returns the bale of which the fewest truths are left at most, and how many.
func bestNext(b api.Burr, list []truth) (best, left int) {
	left = len(list) + 1
	for number := range b.Bales {
		with := count(list, func(x truth) bool { return has(x.bales, number) })
		if most := max(with, len(list)-with); most < left {
			best, left = number, most
		}
	}
	return best, left
}

// compare checks what each function returns, by all truths; it tells whether there is one.
func compare(t *testing.T, b api.Burr) bool {
	t.Helper()
	list := truths(b, everyTest(b))
	want := func(name string, got, want result) {
		t.Helper()
		if got != want {
			t.Fatal(b, name, got, "want", want)
		}
	}
	got := callAll(b)
	want("Count", got["Count"], fromInt(len(list), api.OK))
	if len(list) == 0 {
		clash := least(len(b.Tests), func(tests int) bool { return len(truths(b, tests)) == 0 })
		want("Clash", got["Clash"], fromInt(clash, api.OK))
		for _, name := range []string{"Mobs", "Bales", "Clean", "Pure", "Open", "Next"} {
			want(name, got[name], failed(api.ErrClash))
		}
		return false
	}
	want("Clash", got["Clash"], failed(api.ErrNone))
	want("Mobs", got["Mobs"], fromTwo(inEach(list, mobsOf), inSome(list, mobsOf), api.OK))
	want("Bales", got["Bales"], fromTwo(inEach(list, balesOf), inSome(list, balesOf), api.OK))
	want("Clean", got["Clean"], fromInt(howSure(list, func(x truth) bool { return x.bales&b.Top == 0 }), api.OK))
	want("Pure", got["Pure"], fromInt(b.Top&^inSome(list, balesOf), api.OK))
	sets := holding(list)
	opened := least(len(b.Bales), func(bales int) bool { return tells(sets, bales, b.Top) })
	want("Open", got["Open"], fromTwo(size(opened), opened, api.OK))
	if len(b.Bales) == 0 {
		want("Next", got["Next"], failed(api.ErrNone))
		return true
	}
	best, left := bestNext(b, list)
	want("Next", got["Next"], fromTwo(best, left, api.OK))
	return true
}

// anyWool returns valid bales of which none was opened, and a truth of them.
func anyWool(r *chance, mobs, bales int) (b api.Burr, x truth) {
	x.mobs = r.below(1 << mobs)
	many, wide := size(x.mobs), r.below(3)
	b = wool(mobs, span(max(0, many-r.below(wide+1)), min(mobs, many+r.below(wide+1))), r.below(1<<bales))
	for number := range bales {
		perhaps := r.below(1<<mobs) & r.below(1<<mobs)
		surely := perhaps & [...]int{0, r.below(1 << mobs), -1}[r.below(3)]
		b.Bales = append(b.Bales, bale(surely, perhaps))
		if surely&x.mobs != 0 || perhaps&x.mobs != 0 && r.below(2) == 0 {
			x.bales |= 1 << number
		}
	}
	return b, x
}

// anyTests returns the bales with so many tests of any bales, some of which can be wrong.
func anyTests(r *chance, b api.Burr, x truth, many int, sound bool) api.Burr {
	if len(b.Bales) == 0 {
		return b
	}
	for range many {
		number := r.below(len(b.Bales))
		wrong := !sound && r.below(6) == 0
		b.Tests = append(b.Tests, api.BurrTest{Bale: number, Found: has(x.bales, number) != wrong})
	}
	return b
}

// P7.1 to P7.7: what is returned is what all truths, found one by one, say together.
func TestAgainstEachTruth(t *testing.T) {
	r := chance(1)
	clashes := 0
	const tries = 6000
	for i := range tries {
		b, x := anyWool(&r, 1+i%api.BurrMobs, r.below(api.BurrBales+1))
		if !compare(t, anyTests(&r, b, x, r.below(api.BurrTests+1), false)) {
			clashes++
		}
	}
	if clashes < 600 || clashes > tries-600 {
		t.Error("too few of one kind", clashes)
	}
}

// eachBale returns each valid bale of wool of so many mobs.
func eachBale(mobs int) (list []api.BurrBale) {
	for perhaps := range 1 << mobs {
		for surely := range perhaps + 1 {
			if surely&^perhaps == 0 {
				list = append(list, bale(surely, perhaps))
			}
		}
	}
	return list
}

// eachSpan calls with each number of mobs in burrs that is known from one bound to another one.
func eachSpan(mobs int, call func(api.Span)) {
	for lo := range mobs + 1 {
		for hi := lo; hi <= mobs; hi++ {
			call(span(lo, hi))
		}
	}
}

// P7.1 to P7.7, of all that there can be of two mobs and two bales, with one test.
func TestEachOfTwo(t *testing.T) {
	for _, one := range eachBale(2) {
		for _, other := range eachBale(2) {
			eachSpan(2, func(burred api.Span) {
				for top := range 4 {
					b := wool(2, burred, top, one, other)
					compare(t, b)
					for _, test := range []api.BurrTest{free(0), free(1), burry(0), burry(1)} {
						compare(t, tested(b, test))
					}
				}
			})
		}
	}
}

// P7.1 to P7.7, of all that there can be of three mobs and a bale, with two tests.
func TestEachOfOneBale(t *testing.T) {
	for _, one := range eachBale(3) {
		eachSpan(3, func(burred api.Span) {
			for top := range 2 {
				b := wool(3, burred, top, one)
				for _, tests := range [][]api.BurrTest{{}, {free(0)}, {burry(0)}, {free(0), burry(0)}, {burry(0), burry(0)}} {
					compare(t, tested(b, tests...))
				}
			}
		})
	}
}

// The greatest of all: five mobs and six bales, with as many truths as there can be, and with as many tests.
func TestGreatest(t *testing.T) {
	if b := alike(5, span(0, 5), bale(0, 31)); !compare(t, b) {
		t.Error("there is a truth")
	}
	if !compare(t, greatest()) {
		t.Error("there is a truth")
	}
	b := greatest()
	b.Burred = span(4, 4)
	if compare(t, b) {
		t.Error("there is no truth")
	}
}
