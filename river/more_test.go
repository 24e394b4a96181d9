package river_test

import (
	"math/bits"
	"reflect"
	"slices"
	"testing"

	"shearworks/api"
	"shearworks/river"
)

// report is all that can be said of a river, and of boats that draw more and more.
type report struct {
	fall            api.Span
	depth           []api.Span // by day
	fresh           []int      // by fresh
	surely, perhaps []int      // by what a boat draws
	until, last     []int      // -1 if there is none
	bears           [][]int    // by what a boat draws, and by day
}

// reportOf returns ErrClash if there is no truth.
func reportOf(r api.River) (report, api.Errno) {
	var all report
	fall, e := river.Fall(r)
	all.fall = fall
	for day := 0; day <= r.Days; day++ {
		depth, _ := river.Depth(r, day)
		all.depth = append(all.depth, depth)
	}
	for number := range r.Freshes {
		days, _ := river.Fresh(r, number)
		all.fresh = append(all.fresh, days)
	}
	for draws := 0; draws <= 24; draws += 3 {
		surely, perhaps, _ := river.Days(r, draws)
		all.surely, all.perhaps = append(all.surely, surely), append(all.perhaps, perhaps)
		all.until = append(all.until, dayOr(river.Until(r, draws)))
		all.last = append(all.last, dayOr(river.Last(r, draws)))
		var bears []int
		for day := 0; day <= r.Days; day++ {
			n, _ := river.Bears(r, draws, day)
			bears = append(bears, n)
		}
		all.bears = append(all.bears, bears)
	}
	return all, e
}

func dayOr(day int, e api.Errno) int {
	if e != api.OK {
		return -1
	}
	return day
}

func inSpan(inner, outer api.Span) bool { return outer.Lo <= inner.Lo && inner.Hi <= outer.Hi }

func inSet(inner, outer int) bool { return inner&^outer == 0 }

func contains(outer, inner int) bool { return inSet(inner, outer) }

func atMost(a, b int) bool { return a <= b }

func atLeast(a, b int) bool { return a >= b }

func asSure(now, before int) bool { return before == api.RiverPerhaps || now == before }

func allAsSure(now, before []int) bool { return slices.EqualFunc(now, before, asSure) }

// asExact tells whether nothing is said less exactly than before.
func asExact(now, before report) bool {
	return inSpan(now.fall, before.fall) && slices.EqualFunc(now.depth, before.depth, inSpan) &&
		slices.EqualFunc(now.fresh, before.fresh, inSet) && slices.EqualFunc(now.bears, before.bears, allAsSure) &&
		slices.EqualFunc(now.surely, before.surely, contains) && slices.EqualFunc(now.perhaps, before.perhaps, inSet) &&
		slices.EqualFunc(now.until, before.until, atLeast) && slices.EqualFunc(now.last, before.last, atMost)
}

func clone(r api.River) api.River {
	r.Freshes, r.Looks = slices.Clone(r.Freshes), slices.Clone(r.Looks)
	return r
}

// narrower returns a span within another one.
func narrower(c *chance, s api.Span) api.Span { return c.span(s.Lo, s.Hi, s.Hi-s.Lo) }

// better returns the river with one thing more that is known, if there is such a thing.
func better(c *chance, r api.River) api.River {
	r = clone(r)
	switch n := c.below(6); {
	case n == 0:
		r.Depth = narrower(c, r.Depth)
	case n == 1:
		r.Fall = narrower(c, r.Fall)
	case n == 2 && len(r.Freshes) > 0:
		i := c.below(len(r.Freshes))
		r.Freshes[i].Days = narrower(c, r.Freshes[i].Days)
	case n == 3 && len(r.Freshes) > 0:
		i := c.below(len(r.Freshes))
		r.Freshes[i].Rise = narrower(c, r.Freshes[i].Rise)
	case n == 4 && len(r.Looks) > 0:
		i := c.below(len(r.Looks))
		r.Looks[i].Depth = narrower(c, r.Looks[i].Depth)
	case len(r.Looks) < api.RiverLooks:
		day := c.below(r.Days + 1)
		depth, _ := river.Depth(r, day)
		r.Looks = append(r.Looks, api.RiverLook{Day: day, Depth: narrower(c, depth)})
	}
	return r
}

// P9.9 and P2: with a look more, or what is known better, nothing is returned less exactly.
func TestKnownBetter(t *testing.T) {
	c := chance(2)
	compared := 0
	for i := range 300 {
		r := anyRiver(&c, []int{2, 12, 20}[i%3])
		before, e := reportOf(r)
		if e != api.OK {
			continue
		}
		more := better(&c, r)
		now, e := reportOf(more)
		if e == api.ErrClash {
			continue
		}
		compared++
		if e != api.OK || !asExact(now, before) {
			t.Fatal(r, more, before, now, e)
		}
	}
	if compared < 120 {
		t.Error("too few compared", compared)
	}
}

// P9.8: however the river truly runs, if looks are right, that is within what is returned.
func TestWhatIsTrue(t *testing.T) {
	c := chance(3)
	held := 0
	for i := range 400 {
		r := anyRiver(&c, []int{2, 12, api.RiverDepth}[i%3])
		true := anyTruth(&c, r)
		if true.right != 1<<len(r.Looks)-1 {
			continue
		}
		held++
		all, e := reportOf(r)
		if e != api.OK || !holds(all, true, r) {
			t.Fatal(r, true, all, e)
		}
	}
	if held < 80 {
		t.Error("too few", held)
	}
}

func holds(all report, true truth, r api.River) bool {
	for number := range r.Freshes {
		if all.fresh[number]>>true.arrivals[number].day&1 == 0 {
			return false
		}
	}
	for day, depth := range all.depth {
		if !inSpan(exactly(true.depths[day]), depth) {
			return false
		}
		for i, surely := range all.surely {
			bears := true.depths[day] >= 3*i
			if !bears && (surely>>day&1 == 1 || day <= all.until[i]) || bears && (all.perhaps[i]>>day&1 == 0 || day > all.last[i]) {
				return false
			}
		}
	}
	return inSpan(exactly(true.fall), all.fall)
}

// P9.8: a boat that draws less is borne no less.
func TestDrawsLess(t *testing.T) {
	c := chance(4)
	for i := range 200 {
		r := anyRiver(&c, []int{2, 12, 20}[i%3])
		all, e := reportOf(r)
		if e != api.OK {
			continue
		}
		for i := 1; i < len(all.surely); i++ {
			if !inSet(all.surely[i], all.surely[i-1]) || !inSet(all.perhaps[i], all.perhaps[i-1]) || all.until[i] > all.until[i-1] || all.last[i] > all.last[i-1] {
				t.Fatal(r, i, all)
			}
		}
	}
}

// P9.9 and P13: the order of looks, and of freshes, makes no difference but to their numbers.
func TestOrder(t *testing.T) {
	c := chance(5)
	clashes := 0
	for i := range 300 {
		r := anyRiver(&c, []int{2, 12, 20}[i%3])
		turned := clone(r)
		slices.Reverse(turned.Looks)
		slices.Reverse(turned.Freshes)
		before, e := reportOf(r)
		now, f := reportOf(turned)
		slices.Reverse(now.fresh)
		if e != f || !reflect.DeepEqual(now, before) {
			t.Fatal(r, before, e, now, f)
		}
		set, e := river.Clash(r)
		other, f := river.Clash(turned)
		if e != f || bits.OnesCount(uint(set)) != bits.OnesCount(uint(other)) {
			t.Fatal(r, set, e, other, f)
		}
		if e == api.OK {
			clashes++
			checkClash(t, r, set)
			checkClash(t, turned, other)
		}
	}
	if clashes < 20 {
		t.Error("too few clashes", clashes)
	}
}

// checkClash checks that the looks of the set clash, and that without any one of them they do not (P4).
func checkClash(t *testing.T, r api.River, set int) {
	t.Helper()
	for left := -1; left < len(r.Looks); left++ {
		if left >= 0 && set>>left&1 == 0 {
			continue
		}
		part := clone(r)
		part.Looks = nil
		for i, l := range r.Looks {
			if set>>i&1 == 1 && i != left {
				part.Looks = append(part.Looks, l)
			}
		}
		want := api.OK
		if left < 0 {
			want = api.ErrClash
		}
		if _, e := river.Fall(part); e != want {
			t.Fatal(r, set, left, e)
		}
	}
}

// P9.7: without any looks there always is a truth.
func TestNoLooks(t *testing.T) {
	c := chance(6)
	for i := range 200 {
		r := anyRiver(&c, []int{2, 12, api.RiverDepth}[i%3])
		r.Looks = nil
		if got := fromInt(river.Clash(r)); got != failed(api.ErrNone) {
			t.Fatal(r, got)
		}
		if got := fromSpan(river.Depth(r, 0)); got != fromSpan(r.Depth, api.OK) {
			t.Fatal(r, got)
		}
	}
}
