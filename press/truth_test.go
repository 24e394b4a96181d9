package press_test

import (
	"math/bits"
	"slices"
	"testing"

	"shearworks/api"
)

// chance is a sequence of numbers that is the same in each run.
type chance uint64

func (c *chance) below(n int) int {
	*c = *c*6364136223846793005 + 1442695040888963407
	return int(uint64(*c)>>33) % n
}

func (c *chance) from(low, high int) int { return low + c.below(high-low+1) }

func size(set int) int { return bits.OnesCount(uint(set)) }

func has(set, n int) bool { return set>>n&1 == 1 }

func within(n int, s api.Span) bool { return s.Lo <= n && n <= s.Hi }

// truth is how heavy each fleece is.
type truth []int

func (x truth) of(fleeces int) int {
	all := 0
	for number, w := range x {
		if has(fleeces, number) {
			all += w
		}
	}
	return all
}

// weights returns each way in which fleeces can weigh an integer of theirs.
func weights(fleeces []api.PressFleece) []truth {
	if len(fleeces) == 0 {
		return []truth{{}}
	}
	var list []truth
	for _, others := range weights(fleeces[:len(fleeces)-1]) {
		last := fleeces[len(fleeces)-1].Weight
		for w := last.Lo; w <= last.Hi; w++ {
			list = append(list, append(slices.Clone(others), w))
		}
	}
	return list
}

// truths returns each truth by which a set of the bales that were weighed is right.
func truths(p api.Press, bales int) []truth {
	return slices.DeleteFunc(weights(p.Fleeces), func(x truth) bool {
		for number, b := range p.Weighed {
			if has(bales, number) && !within(x.of(b.Fleeces), b.Weight) {
				return true
			}
		}
		return false
	})
}

func everyBale(p api.Press) int { return 1<<len(p.Weighed) - 1 }

// sums returns how heavy fleeces can be together, by all truths.
func sums(list []truth, fleeces int) []int {
	var each []int
	for _, x := range list {
		each = append(each, x.of(fleeces))
	}
	slices.Sort(each)
	return slices.Compact(each)
}

func ofOneLine(p api.Press, fleeces int) bool {
	line := -1
	for number, f := range p.Fleeces {
		if has(fleeces, number) {
			if line >= 0 && f.Line != line {
				return false
			}
			line = f.Line
		}
	}
	return line >= 0
}

// howFit returns in which truths fleeces fit a bale, by how heavy they can be.
func howFit(p api.Press, fleeces int, heavy []int) int {
	fit := 0
	for _, w := range heavy {
		if w >= p.Low && w <= p.Top && ofOneLine(p, fleeces) {
			fit++
		}
	}
	switch fit {
	case 0:
		return api.PressNever
	case len(heavy):
		return api.PressAlways
	}
	return api.PressPerhaps
}

// eachPressing calls with each pressing, ordered by numbers: each fleece waits, or is in a bale with others, or in one more.
func eachPressing(p api.Press, fit []int, call func(bales []int)) {
	var bales []int
	var deal func(number int)
	deal = func(number int) {
		if number == len(p.Fleeces) {
			for _, bale := range bales {
				if fit[bale] != api.PressAlways {
					return
				}
			}
			list := slices.Clone(bales)
			slices.Sort(list)
			call(list)
			return
		}
		deal(number + 1)
		for i := range bales {
			bales[i] |= 1 << number
			deal(number + 1)
			bales[i] &^= 1 << number
		}
		if len(bales) < p.Bales {
			bales = append(bales, 1<<number)
			deal(number + 1)
			bales = bales[:len(bales)-1]
		}
	}
	deal(0)
}

func pressed(bales []int) (fleeces int) {
	for _, bale := range bales {
		fleeces += size(bale)
	}
	return fleeces
}

// best returns the first pressing that presses most fleeces into as few bales as can be.
func best(p api.Press, fit []int) []int {
	var found []int
	eachPressing(p, fit, func(bales []int) {
		more, fewer := pressed(bales)-pressed(found), len(found)-len(bales)
		if more > 0 || more == 0 && (fewer > 0 || fewer == 0 && slices.Compare(bales, found) < 0) {
			found = bales
		}
	})
	return found
}

func waiting(p api.Press, bales []int) (lines [api.PressLines]int) {
	for number, f := range p.Fleeces {
		if !slices.ContainsFunc(bales, func(bale int) bool { return has(bale, number) }) {
			lines[f.Line]++
		}
	}
	return lines
}

// wrongBales returns the bales with each of which alone there is no truth.
func wrongBales(p api.Press) int {
	wrong := 0
	for number := range p.Weighed {
		if len(truths(p, 1<<number)) == 0 {
			wrong |= 1 << number
		}
	}
	return wrong
}

// addition returns the first fleece with which others always fit, and an error if there is none.
func addition(p api.Press, fit []int, fleeces int) (int, api.Errno) {
	for number := range p.Fleeces {
		if !has(fleeces, number) && fit[fleeces|1<<number] == api.PressAlways {
			return number, api.OK
		}
	}
	return 0, api.ErrNone
}

// compareClash checks what each function returns if there is no truth.
func compareClash(t *testing.T, p api.Press, wrong int) {
	t.Helper()
	for function, got := range callAll(p, 1<<len(p.Fleeces)-1) {
		want := failed(api.ErrClash, results()[function])
		if function == "False" {
			want = fromInt(wrong, api.OK)
		}
		if got != want {
			t.Fatal(p, function, got, "want", want)
		}
	}
}

// compareTruth checks what each function returns, by how heavy each set of fleeces can be.
func compareTruth(t *testing.T, p api.Press, heavy func(fleeces int) []int) {
	t.Helper()
	sets := 1 << len(p.Fleeces)
	fit := make([]int, sets)
	spans := make([]api.Span, sets)
	for fleeces := range sets {
		list := heavy(fleeces)
		spans[fleeces] = span(list[0], list[len(list)-1])
		fit[fleeces] = howFit(p, fleeces, list)
		if spans[fleeces].Hi-spans[fleeces].Lo+1 != len(list) { // P8.9: all integers of a weight are of a truth
			t.Fatal(p, fleeces, list)
		}
	}
	want := func(got, want map[string]result) {
		t.Helper()
		for function := range want {
			if got[function] != want[function] {
				t.Fatal(p, function, got[function], "want", want[function])
			}
		}
	}
	plan := best(p, fit)
	want(ofPress(p), map[string]result{
		"Most":  fromTwo(pressed(plan), len(plan), api.OK),
		"Plan":  fromList(plan, api.OK),
		"Wait":  fromLines(waiting(p, plan), api.OK),
		"False": failed(api.ErrNone, 1),
	})
	for fleeces := range sets {
		want(ofSet(p, fleeces), map[string]result{
			"Weight": fromSpan(spans[fleeces], api.OK),
			"Fits":   fromInt(fit[fleeces], api.OK),
			"Add":    fromInt(addition(p, fit, fleeces)),
		})
	}
}

// compare checks what each function returns, by all truths; it tells whether there is one.
func compare(t *testing.T, p api.Press) bool {
	t.Helper()
	list := truths(p, everyBale(p))
	if len(list) == 0 {
		compareClash(t, p, wrongBales(p))
		return false
	}
	compareTruth(t, p, func(fleeces int) []int { return sums(list, fleeces) })
	return true
}

// anyPress returns a press of so many fleeces, with some bales that were weighed, and a truth of it.
func anyPress(r *chance, fleeces int) (api.Press, truth) {
	heavy := r.from(1, api.PressWeight)
	lines := r.from(1, api.PressLines)
	p := pressing(0, 0, r.below(api.PressBales+1))
	var x truth
	for range fleeces {
		w := r.from(max(1, heavy-r.below(8)), heavy)
		lo := r.from(max(1, w-api.PressWide), w)
		hi := r.from(w, min(api.PressWeight, lo+api.PressWide))
		if r.below(3) == 0 {
			lo, hi = w, w
		}
		p.Fleeces = append(p.Fleeces, fleece(lo, hi, r.below(lines)))
		x = append(x, w)
	}
	p.Low = r.from(1, 3*heavy)
	p.Top = min(api.PressTop, p.Low+r.below(heavy+3))
	left := 1<<fleeces - 1
	for range r.below(api.PressWeighed + 1) {
		if set := r.below(1<<fleeces) & left; set != 0 {
			p.Weighed = append(p.Weighed, nearly(r, set, x.of(set)))
			left &^= set
		}
	}
	return p, x
}

// nearly returns that a bale was weighed, and found to be about as heavy as it is.
func nearly(r *chance, fleeces, heavy int) api.PressBale {
	return bale(fleeces, max(1, heavy-r.below(3)), min(api.PressTop, heavy+r.below(3)))
}

// mistaken returns the press with some weighings that can be wrong.
func mistaken(r *chance, p api.Press) api.Press {
	for number, b := range p.Weighed {
		if by := r.from(-4, 4); r.below(3) == 0 {
			p.Weighed[number].Weight = span(max(1, b.Weight.Lo+by), max(1, b.Weight.Hi+by))
		}
	}
	return p
}

// P8.1 to P8.7: what is returned is what all truths, found one by one, and all pressings say.
func TestAgainstEachTruth(t *testing.T) {
	r := chance(1)
	clashes := 0
	const tries = 3000
	for range tries {
		p, _ := anyPress(&r, r.below(6))
		if !compare(t, mistaken(&r, p)) {
			clashes++
		}
	}
	if clashes < 200 || clashes > tries-200 {
		t.Error("too few of one kind", clashes)
	}
}

// P8.1 to P8.7, of all that can be of two fleeces that weigh from 1 to 3, a bale of both, or of one, and all bales up to 6.
func TestEachOfTwo(t *testing.T) {
	spans := eachSpan(3)
	for _, one := range spans {
		for _, other := range spans {
			for _, heavy := range eachSpan(6) {
				for set := range 4 {
					p := pressing(heavy.Lo, heavy.Hi, 1+set&1, fleece(one.Lo, one.Hi, 1), fleece(other.Lo, other.Hi, 1))
					compare(t, p)
					for _, w := range eachSpan(6) {
						if set != 0 && w.Hi-w.Lo < 2 {
							compare(t, weighed(p, bale(set, w.Lo, w.Hi)))
						}
					}
				}
			}
		}
	}
}

// eachSpan returns each span within 1 to a number.
func eachSpan(high int) (list []api.Span) {
	for lo := 1; lo <= high; lo++ {
		for hi := lo; hi <= high; hi++ {
			list = append(list, span(lo, hi))
		}
	}
	return list
}

// joint is how heavy some fleeces of a bale are, and all of them.
type joint struct{ some, all int }

// joints returns how heavy those of some fleeces that are in a bale can be, with all of the bale.
func joints(p api.Press, bale, fleeces int) map[joint]bool {
	list := map[joint]bool{{}: true}
	for number, f := range p.Fleeces {
		if !has(bale, number) {
			continue
		}
		next := map[joint]bool{}
		for j := range list {
			for w := f.Weight.Lo; w <= f.Weight.Hi; w++ {
				if has(fleeces, number) {
					next[joint{j.some + w, j.all + w}] = true
				} else {
					next[joint{j.some, j.all + w}] = true
				}
			}
		}
		list = next
	}
	return list
}

// bothOf returns each sum of a number of each list, once.
func bothOf(one, other []int) (list []int) {
	for _, a := range one {
		for _, b := range other {
			list = append(list, a+b)
		}
	}
	slices.Sort(list)
	return slices.Compact(list)
}

// jointSums returns how heavy fleeces can be, bale by bale, as there are too many truths for finding them one by one.
func jointSums(p api.Press, fleeces int) []int {
	heavy := []int{0}
	loose := 1<<len(p.Fleeces) - 1
	bales := slices.Clone(p.Weighed)
	for _, b := range p.Weighed {
		loose &^= b.Fleeces
	}
	for _, b := range append(bales, bale(loose, 0, 200)) {
		var some []int
		for j := range joints(p, b.Fleeces, fleeces) {
			if within(j.all, b.Weight) {
				some = append(some, j.some)
			}
		}
		heavy = bothOf(heavy, some)
	}
	return heavy
}

// P8.1 to P8.7, of up to ten fleeces.
func TestLarge(t *testing.T) {
	r := chance(2)
	for i := range 60 {
		p, _ := anyPress(&r, 6+i%5)
		compareTruth(t, p, func(fleeces int) []int { return jointSums(p, fleeces) })
	}
}

// The greatest of all: ten fleeces, of which all fit a bale, and ten of which some do, with five bales.
func TestGreatest(t *testing.T) {
	all := between(greatest(), 1, 200)
	all.Weighed = nil
	for _, p := range []api.Press{greatest(), all, between(greatest(), 1, 33), exactly(20, 41, 5, 20, 20, 20, 20, 20, 20, 20, 20, 20, 20)} {
		compareTruth(t, p, func(fleeces int) []int { return jointSums(p, fleeces) })
	}
}
