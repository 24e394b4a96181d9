package stand_test

import (
	"math/bits"
	"testing"

	"shearworks/api"
	"shearworks/stand"
)

// chance is a sequence of numbers that is the same in each run.
type chance uint64

func (c *chance) below(n int) int {
	*c = *c*6364136223846793005 + 1442695040888963407
	return int(uint64(*c)>>33) % n
}

// span returns a span within low..high that is at most so wide.
func (c *chance) span(low, high, wide int) api.Span {
	lo := low + c.below(high-low+1)
	return span(lo, min(high, lo+c.below(wide+1)))
}

// truth is what one shearer does, whether looks are right or not: how long kinds take, by sheep in which run it is begun (-1 if in none) and at which minute it is done, and which looks are right.
type truth struct {
	takes     [api.StandKinds]int
	run, done []int
	right     int
}

// lastMinute is the last one at which a sheep can be done, and some more.
const lastMinute = 650

// ringing returns the run whose Start was, and whose Bell has not rung at a minute; -1 if there is none.
func ringing(s api.Stand, minute int) int {
	for i, r := range s.Runs {
		if r.Start <= minute && minute < r.Bell {
			return i
		}
	}
	return -1
}

// watch looks at the shearer minute by minute.
func watch(s api.Stand, takes [api.StandKinds]int) truth {
	t := truth{takes: takes}
	inHand, left := false, 0 // a sheep, and for how many minutes
	for minute := range lastMinute {
		if inHand {
			left--
			if left == 0 {
				t.done = append(t.done, minute)
				inHand = false
			}
		}
		if now := ringing(s, minute); !inHand && len(t.run) < len(s.Sheep) && now >= 0 {
			inHand, left = true, takes[s.Sheep[len(t.run)]]
			t.run = append(t.run, now)
		}
	}
	for len(t.run) < len(s.Sheep) {
		t.run, t.done = append(t.run, -1), append(t.done, api.StandNone)
	}
	for i, l := range s.Looks {
		if many := t.doneBy(l.Minute); l.Done.Lo <= many && many <= l.Done.Hi {
			t.right |= 1 << i
		}
	}
	return t
}

func (t truth) doneBy(minute int) int {
	many := 0
	for _, done := range t.done {
		if done <= minute {
			many++
		}
	}
	return many
}

func (t truth) begun(run int) int {
	many := 0
	for _, in := range t.run {
		if in == run {
			many++
		}
	}
	return many
}

func (t truth) over(s api.Stand, run int) int {
	last := -1
	for sheep, in := range t.run {
		if in == run {
			last = sheep
		}
	}
	if last < 0 || t.done[last] <= s.Runs[run].Bell {
		return 0
	}
	return t.done[last] - s.Runs[run].Bell
}

func (t truth) late(s api.Stand, run int) bool {
	for sheep, in := range t.run {
		if in >= 0 && in < run && t.done[sheep] > s.Runs[run].Start {
			return true
		}
	}
	return false
}

// everyTruth returns each truth that there would be without looks, one by one.
func everyTruth(s api.Stand) (list []truth) {
	for a := s.Minutes[0].Lo; a <= s.Minutes[0].Hi; a++ {
		for b := s.Minutes[1].Lo; b <= s.Minutes[1].Hi; b++ {
			for c := s.Minutes[2].Lo; c <= s.Minutes[2].Hi; c++ {
				list = append(list, watch(s, [api.StandKinds]int{a, b, c}))
			}
		}
	}
	return list
}

// rightOnes returns the truths in which all looks are right.
func rightOnes(s api.Stand, every []truth) (list []truth) {
	for _, t := range every {
		if t.right == 1<<len(s.Looks)-1 {
			list = append(list, t)
		}
	}
	return list
}

func spanOver(list []truth, of func(t truth) int) api.Span {
	s := exactly(of(list[0]))
	for _, t := range list {
		s.Lo, s.Hi = min(s.Lo, of(t)), max(s.Hi, of(t))
	}
	return s
}

// fewestOf returns the fewest looks that are right together in no truth.
func fewestOf(s api.Stand, every []truth) int {
	for many := 1; many <= len(s.Looks); many++ {
	sets:
		for set := range 1 << len(s.Looks) {
			if bits.OnesCount(uint(set)) != many {
				continue
			}
			for _, t := range every {
				if t.right&set == set {
					continue sets
				}
			}
			return set
		}
	}
	return 0
}

// anyStand returns a valid stand; its looks mostly are right.
func anyStand(r *chance) api.Stand {
	var s api.Stand
	longest := 4 + r.below(api.StandMinutes-3)
	for i := range s.Minutes {
		s.Minutes[i] = r.span(1, longest, api.StandWide)
	}
	from := r.below(5)
	for range 1 + r.below(api.StandRuns) {
		bell := from + 1 + r.below(3*longest)
		s.Runs = append(s.Runs, run(from, bell))
		from = bell + r.below(2)*r.below(longest)
	}
	for range r.below(api.StandSheep + 1) {
		s.Sheep = append(s.Sheep, r.below(api.StandKinds))
	}
	every := everyTruth(s)
	happened := every[r.below(len(every))]
	for range r.below(api.StandLooks + 1) {
		minute := r.below(min(api.StandDay, from+longest) + 1)
		many := happened.doneBy(minute)
		if r.below(5) == 0 {
			many = max(0, many+r.below(3)-1)
		}
		s.Looks = append(s.Looks, counted(minute, max(0, many-r.below(2)), min(api.StandSheep, many+r.below(2))))
	}
	return s
}

// P4.1 to P4.7, and P4.9: what is returned is what all truths, found one by one, say together; both ends of each span are those of one.
func TestAgainstEachTruth(t *testing.T) {
	r := chance(1)
	clashes := 0
	for range 400 {
		s := anyStand(&r)
		every := everyTruth(s)
		list := rightOnes(s, every)
		if len(list) > 0 {
			compare(t, s, list)
			continue
		}
		clashes++
		if got, e := stand.Clash(s); got != fewestOf(s, every) || e != api.OK {
			t.Fatal(s, got, e, "want", fewestOf(s, every))
		}
		if got := fromSpan(stand.Count(s, 0)); got != failed(api.ErrClash) {
			t.Fatal(s, got)
		}
	}
	if clashes < 40 || clashes > 200 {
		t.Error("clashes", clashes)
	}
}

func compare(t *testing.T, s api.Stand, list []truth) {
	t.Helper()
	same := func(name string, number int, got result, of func(t truth) int) {
		t.Helper()
		if want := fromSpan(spanOver(list, of), api.OK); got != want {
			t.Fatal(s, name, number, got, "want", want)
		}
	}
	for sheep := range s.Sheep {
		same("Done", sheep, fromSpan(stand.Done(s, sheep)), func(t truth) int { return t.done[sheep] })
	}
	for minute := 0; minute < lastMinute; minute += 1 + minute%7 {
		same("Count", minute, fromSpan(stand.Count(s, minute)), func(t truth) int { return t.doneBy(minute) })
	}
	same("Count", 999, fromSpan(stand.Count(s, 999)), func(t truth) int { return t.doneBy(999) })
	for kind := range api.StandKinds {
		same("Takes", kind, fromSpan(stand.Takes(s, kind)), func(t truth) int { return t.takes[kind] })
	}
	for number := range s.Runs {
		same("Begun", number, fromSpan(stand.Begun(s, number)), func(t truth) int { return t.begun(number) })
		same("Over", number, fromSpan(stand.Over(s, number)), func(t truth) int { return t.over(s, number) })
		if number > 0 {
			compareLate(t, s, number, list)
		}
	}
	if got := fromInt(stand.Clash(s)); got != failed(api.ErrNone) {
		t.Fatal(s, got)
	}
}

func compareLate(t *testing.T, s api.Stand, number int, list []truth) {
	t.Helper()
	many := 0
	for _, one := range list {
		if one.late(s, number) {
			many++
		}
	}
	want := api.StandPerhaps
	switch many {
	case 0:
		want = api.StandNever
	case len(list):
		want = api.StandAlways
	}
	if got := fromInt(stand.Late(s, number)); got != fromInt(want, api.OK) {
		t.Fatal(s, "Late", number, got, "want", want)
	}
}

// The greatest stand of all, with all kinds as wide as they can be.
func TestGreatestStand(t *testing.T) {
	s := api.Stand{
		Minutes: [api.StandKinds]api.Span{span(1, 5), span(20, 24), span(36, 40)},
		Runs:    []api.StandRun{run(0, 150), run(150, 300), run(330, 400), run(563, 600)},
		Sheep:   []int{2, 2, 1, 0, 2, 1, 2, 2, 0, 1, 2, 2, 1, 1, 2, 2},
	}
	every := everyTruth(s)
	if len(every) != 125 {
		t.Fatal(len(every))
	}
	compare(t, s, every)
	s.Looks = []api.StandLook{counted(140, 5, 5), counted(300, 10, 10), counted(390, 12, 13), counted(600, 0, 15)}
	list := rightOnes(s, everyTruth(s))
	if len(list) == 0 || len(list) == len(every) {
		t.Fatal(len(list))
	}
	compare(t, s, list)
}
