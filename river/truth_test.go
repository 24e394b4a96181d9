package river_test

import (
	"math/bits"
	"slices"
	"testing"

	"shearworks/api"
	"shearworks/river"
)

// chance is a sequence of numbers that is the same in each run.
type chance uint64

func (c *chance) below(n int) int {
	*c = *c*6364136223846793005 + 1442695040888963407
	return int(uint64(*c)>>33) % n
}

// span returns a span within low..high that is at most so wide.
func (c *chance) span(low, high, wide int) api.Span {
	lo := low + c.below(high-low+1)
	return span(lo, min(high, lo+c.below(wide+1)))
}

// arrival is on which day a fresh comes, and what it brings.
type arrival struct{ day, rise int }

// truth is how a river runs, whether looks are right or not.
type truth struct {
	fall     int
	arrivals [api.RiverFreshes]arrival // those beyond the last fresh are on the day 0, and bring nothing
	depths   [api.RiverDays + 1]int
	right    int // which looks are
}

// run returns how the river runs, day by day.
func run(r api.River, depth, fall int, arrivals [api.RiverFreshes]arrival) truth {
	t := truth{fall: fall, arrivals: arrivals}
	for day := 0; day <= r.Days; day++ {
		if day > 0 {
			depth -= fall
			if depth < 0 {
				depth = 0
			}
			for _, a := range arrivals {
				if a.day == day {
					depth += a.rise
				}
			}
		}
		t.depths[day] = depth
	}
	for i, l := range r.Looks {
		if deep := t.depths[l.Day]; l.Depth.Lo <= deep && deep <= l.Depth.Hi {
			t.right |= 1 << i
		}
	}
	return t
}

// everyArrival returns each way in which freshes can come, from the number one on.
func everyArrival(freshes []api.RiverFresh, number int) (list [][api.RiverFreshes]arrival) {
	if number == len(freshes) {
		return [][api.RiverFreshes]arrival{{}}
	}
	f := freshes[number]
	for _, others := range everyArrival(freshes, number+1) {
		for day := f.Days.Lo; day <= f.Days.Hi; day++ {
			for rise := f.Rise.Lo; rise <= f.Rise.Hi; rise++ {
				others[number] = arrival{day, rise}
				list = append(list, others)
			}
		}
	}
	return list
}

// everyTruth returns each truth that there would be without looks, one by one.
func everyTruth(r api.River) (list []truth) {
	for _, arrivals := range everyArrival(r.Freshes, 0) {
		for depth := r.Depth.Lo; depth <= r.Depth.Hi; depth++ {
			for fall := r.Fall.Lo; fall <= r.Fall.Hi; fall++ {
				list = append(list, run(r, depth, fall, arrivals))
			}
		}
	}
	return list
}

// rightOnes returns the truths in which all looks are right.
func rightOnes(r api.River, every []truth) (list []truth) {
	for _, t := range every {
		if t.right == 1<<len(r.Looks)-1 {
			list = append(list, t)
		}
	}
	return list
}

func spanOver(list []truth, of func(t truth) int) api.Span {
	s := exactly(of(list[0]))
	for _, t := range list {
		s.Lo, s.Hi = min(s.Lo, of(t)), max(s.Hi, of(t))
	}
	return s
}

// fewestOf returns the fewest looks that are right together in no truth.
func fewestOf(r api.River, every []truth) int {
	for many := 1; many <= len(r.Looks); many++ {
	sets:
		for set := range 1 << len(r.Looks) {
			if bits.OnesCount(uint(set)) != many {
				continue
			}
			for _, t := range every {
				if t.right&set == set {
					continue sets
				}
			}
			return set
		}
	}
	return 0
}

// anyRiver returns a valid river, at most so deep at first; its looks mostly are right.
func anyRiver(c *chance, deep int) api.River {
	r := api.River{Depth: c.span(0, deep, api.RiverWide), Fall: c.span(0, api.RiverFall, api.RiverFalls), Days: 1 + c.below(api.RiverDays)}
	for range c.below(api.RiverFreshes + 1) {
		r.Freshes = append(r.Freshes, api.RiverFresh{Days: c.span(1, r.Days, api.RiverLate), Rise: c.span(1, 1+c.below(api.RiverRise), api.RiverRises)})
	}
	happened := anyTruth(c, r)
	for range c.below(api.RiverLooks + 1) {
		day := c.below(r.Days + 1)
		depth := happened.depths[day]
		if c.below(5) == 0 {
			depth = max(0, depth+c.below(5)-2)
		}
		r.Looks = append(r.Looks, look(day, max(0, depth-c.below(3)), depth+c.below(3)))
	}
	return r
}

// anyTruth returns one truth that there would be without looks.
func anyTruth(c *chance, r api.River) truth {
	var arrivals [api.RiverFreshes]arrival
	for i, f := range r.Freshes {
		arrivals[i] = arrival{c.in(f.Days), c.in(f.Rise)}
	}
	return run(r, c.in(r.Depth), c.in(r.Fall), arrivals)
}

// in returns an integer of a span.
func (c *chance) in(s api.Span) int { return s.Lo + c.below(s.Hi-s.Lo+1) }

// P9.1 to P9.7, and P9.8: what is returned is what all truths, found one by one, say together; both ends of each span are those of one.
func TestAgainstEachTruth(t *testing.T) {
	c := chance(1)
	clashes, many := 0, [api.RiverLooks + 1]int{}
	for i := range 700 {
		r := anyRiver(&c, []int{2, 12, api.RiverDepth}[i%3])
		every := everyTruth(r)
		list := rightOnes(r, every)
		if len(list) > 0 {
			compare(t, r, list)
			continue
		}
		clashes++
		set := fewestOf(r, every)
		many[bits.OnesCount(uint(set))]++
		if got := fromInt(river.Clash(r)); got != fromInt(set, api.OK) {
			t.Fatal(r, got, "want", set)
		}
		if got := fromSpan(river.Fall(r)); got != failed(api.ErrClash) {
			t.Fatal(r, got)
		}
	}
	if clashes < 60 || clashes > 350 || many[1] < 10 || many[2] < 10 || many[3] == 0 {
		t.Error("clashes", clashes, many)
	}
}

func compare(t *testing.T, r api.River, list []truth) {
	t.Helper()
	if got, want := fromSpan(river.Fall(r)), fromSpan(spanOver(list, func(t truth) int { return t.fall }), api.OK); got != want {
		t.Fatal(r, "Fall", got, "want", want)
	}
	for day := 0; day <= r.Days; day++ {
		want := spanOver(list, func(t truth) int { return t.depths[day] })
		if got := fromSpan(river.Depth(r, day)); got != fromSpan(want, api.OK) {
			t.Fatal(r, "Depth", day, got, "want", want)
		}
	}
	for number := range r.Freshes {
		days := 0
		for _, one := range list {
			days |= 1 << one.arrivals[number].day
		}
		if got := fromInt(river.Fresh(r, number)); got != fromInt(days, api.OK) {
			t.Fatal(r, "Fresh", number, got, "want", days)
		}
	}
	for _, draws := range draughts(list) {
		compareBoat(t, r, draws, list)
	}
	if got := fromInt(river.Clash(r)); got != failed(api.ErrNone) {
		t.Fatal(r, got)
	}
}

// draughts returns how much boats draw: just as deep as the river is in some truths, and one more or less.
func draughts(list []truth) []int {
	draws := []int{0, 1, api.RiverMost}
	for i := range 4 {
		one := list[i*(len(list)-1)/3]
		draws = append(draws, max(0, one.depths[i]-1), one.depths[i], one.depths[i]+1)
	}
	slices.Sort(draws)
	return slices.Compact(draws)
}

func compareBoat(t *testing.T, r api.River, draws int, list []truth) {
	t.Helper()
	until, last := failed(api.ErrNone), failed(api.ErrNone)
	surely, perhaps := 0, 0
	for day := 0; day <= r.Days; day++ {
		many := 0
		for _, one := range list {
			if one.depths[day] >= draws {
				many++
			}
		}
		want := api.RiverNever
		if many > 0 {
			want = api.RiverPerhaps
			perhaps |= 1 << day
			last = fromInt(day, api.OK)
		}
		if many == len(list) {
			want = api.RiverAlways
			if surely == 1<<day-1 {
				until = fromInt(day, api.OK)
			}
			surely |= 1 << day
		}
		if got := fromInt(river.Bears(r, draws, day)); got != fromInt(want, api.OK) {
			t.Fatal(r, "Bears", draws, day, got, "want", want)
		}
	}
	if got := fromTwo(river.Days(r, draws)); got != fromTwo(surely, perhaps, api.OK) {
		t.Fatal(r, "Days", draws, got, "want", surely, perhaps)
	}
	if got := fromInt(river.Until(r, draws)); got != until {
		t.Fatal(r, "Until", draws, got, "want", until)
	}
	if got := fromInt(river.Last(r, draws)); got != last {
		t.Fatal(r, "Last", draws, got, "want", last)
	}
}

// All small rivers to which one fresh comes, with each look on them that tells something.
func TestSmallRivers(t *testing.T) {
	depths := []api.Span{exactly(0), span(0, 1), exactly(2), span(1, 3)}
	falls := []api.Span{exactly(0), exactly(1), span(0, 2), span(1, 2)}
	for _, depth := range depths {
		for _, fall := range falls {
			for _, f := range []api.RiverFresh{fresh(1, 1, 1, 1), fresh(1, 2, 1, 1), fresh(2, 3, 1, 2), fresh(1, 3, 2, 3)} {
				r := api.River{Depth: depth, Fall: fall, Days: 3, Freshes: []api.RiverFresh{f}}
				everyLook(t, r)
			}
		}
	}
}

func everyLook(t *testing.T, r api.River) {
	t.Helper()
	for day := 0; day <= r.Days; day++ {
		for lo := range 6 {
			for hi := lo; hi < 6; hi++ {
				r.Looks = []api.RiverLook{look(day, lo, hi)}
				if list := rightOnes(r, everyTruth(r)); len(list) > 0 {
					compare(t, r, list)
				} else if got := fromInt(river.Clash(r)); got != fromInt(1, api.OK) {
					t.Fatal(r, got)
				}
			}
		}
	}
}

// greatest has as many truths as a river can have.
func greatest() api.River {
	return api.River{
		Depth: span(6, 10), Fall: span(3, 5), Days: 10,
		Freshes: []api.RiverFresh{fresh(2, 5, 1, 4), fresh(4, 7, 17, 20), fresh(3, 6, 7, 10)},
	}
}

func TestGreatestRiver(t *testing.T) {
	r := greatest()
	every := everyTruth(r)
	if len(every) != 5*3*16*16*16 {
		t.Fatal(len(every))
	}
	compare(t, r, every)
	r.Looks = []api.RiverLook{look(10, 3, 30), look(3, 0, 9), look(5, 8, 40), look(7, 12, 24), look(1, 2, 6)}
	list := rightOnes(r, everyTruth(r))
	if len(list) == 0 || len(list) == len(every) {
		t.Fatal(len(list))
	}
	compare(t, r, list)
	r.Looks = []api.RiverLook{look(3, 0, 0), look(5, 15, 16), look(7, 0, 12), look(9, 3, 3), look(10, 5, 9)}
	every = everyTruth(r)
	if got := fromInt(river.Clash(r)); len(rightOnes(r, every)) > 0 || got != fromInt(fewestOf(r, every), api.OK) {
		t.Fatal(got, fewestOf(r, every))
	}
}
