package mob_test

import (
	"math/bits"
	"testing"

	"shearworks/api"
	"shearworks/mob"
)

// chance is a sequence of numbers that is the same in each run.
type chance uint64

func (c *chance) below(n int) int {
	*c = *c*6364136223846793005 + 1442695040888963407
	return int(uint64(*c)>>33) % n
}

// span returns a span within low..high that is at most so wide.
func (c *chance) span(low, high, wide int) api.Span {
	lo := low + c.below(high-low+1)
	return span(lo, min(high, lo+c.below(wide+1)))
}

// truth is one truth of a way, but for what was seen: on which day each mob comes to each place, its longest stretch, and which things seen are right.
type truth struct {
	comes   [][]int
	stretch []int
	right   int
}

// drive returns on which day a mob comes to each place from its Start on, and its longest stretch, word for word as the chapter says it.
func drive(m api.Mob, h api.MobHerd, legs []int, leaves int) (comes []int, longest int) {
	comes = make([]int, len(m.Places))
	shed := len(m.Places) - 1
	comes[h.Start] = leaves
	goesOn, drank := leaves, leaves
	for place := h.Start + 1; place <= shed; place++ {
		comes[place] = goesOn + legs[place-1]
		goesOn = comes[place]
		if m.Places[place].Water {
			goesOn += m.Places[place].Rest
		}
		if m.Places[place].Water || place == shed {
			longest = max(longest, comes[place]-drank)
			drank = goesOn
		}
	}
	return comes, longest
}

// everyTruth returns each truth that there would be if nothing had been seen, one by one.
func everyTruth(m api.Mob) (list []truth) {
	legs := make([]int, len(m.Legs))
	leaves := make([]int, len(m.Herds))
	var chooseLeaves func(herd int)
	chooseLeaves = func(herd int) {
		if herd == len(leaves) {
			list = append(list, truthOf(m, legs, leaves))
			return
		}
		for day := m.Herds[herd].Leaves.Lo; day <= m.Herds[herd].Leaves.Hi; day++ {
			leaves[herd] = day
			chooseLeaves(herd + 1)
		}
	}
	var chooseLegs func(leg int)
	chooseLegs = func(leg int) {
		if leg == len(legs) {
			chooseLeaves(0)
			return
		}
		for days := m.Legs[leg].Lo; days <= m.Legs[leg].Hi; days++ {
			legs[leg] = days
			chooseLegs(leg + 1)
		}
	}
	chooseLegs(0)
	return list
}

func truthOf(m api.Mob, legs, leaves []int) truth {
	var t truth
	for i, h := range m.Herds {
		comes, longest := drive(m, h, legs, leaves[i])
		t.comes = append(t.comes, comes)
		t.stretch = append(t.stretch, longest)
	}
	for i, s := range m.Seen {
		if day := t.comes[s.Mob][s.Place]; s.Days.Lo <= day && day <= s.Days.Hi {
			t.right |= 1 << i
		}
	}
	return t
}

// rightOnes returns the truths in which all that was seen is right.
func rightOnes(m api.Mob, every []truth) (list []truth) {
	for _, t := range every {
		if t.right == 1<<len(m.Seen)-1 {
			list = append(list, t)
		}
	}
	return list
}

func spanOver(list []truth, of func(t truth) int) api.Span {
	s := span(of(list[0]), of(list[0]))
	for _, t := range list {
		s.Lo, s.Hi = min(s.Lo, of(t)), max(s.Hi, of(t))
	}
	return s
}

func sure(list []truth, is func(t truth) bool) int {
	many := 0
	for _, t := range list {
		if is(t) {
			many++
		}
	}
	switch many {
	case 0:
		return api.MobNever
	case len(list):
		return api.MobAlways
	}
	return api.MobPerhaps
}

// fewestOf returns the fewest things seen that are right together in no truth.
func fewestOf(m api.Mob, every []truth) int {
	for many := 1; many <= len(m.Seen); many++ {
	sets:
		for set := range 1 << len(m.Seen) {
			if bits.OnesCount(uint(set)) != many {
				continue
			}
			for _, t := range every {
				if t.right&set == set {
					continue sets
				}
			}
			return set
		}
	}
	return 0
}

// anyWay returns a valid way with not too many truths; what was seen of it mostly is right.
func anyWay(r *chance) api.Mob {
	var m api.Mob
	places := 2 + r.below(api.MobPlaces-1)
	for range places {
		m.Places = append(m.Places, api.MobPlace{Water: r.below(2) == 0, Rest: r.below(api.MobRest + 1)})
	}
	for range places - 1 {
		m.Legs = append(m.Legs, r.span(1, api.MobLeg, r.below(api.MobWide+1)))
	}
	for range 1 + r.below(api.MobHerds) {
		m.Herds = append(m.Herds, api.MobHerd{Start: r.below(places - 1), Leaves: r.span(0, 8, r.below(api.MobLeaves+1)), Thirst: r.below(10)})
	}
	every := everyTruth(m)
	happened := every[r.below(len(every))]
	for range r.below(api.MobSeens + 1) {
		herd := r.below(len(m.Herds))
		place := m.Herds[herd].Start + r.below(places-m.Herds[herd].Start)
		day := happened.comes[herd][place]
		if r.below(5) == 0 {
			day += r.below(5) - 2
		}
		m.Seen = append(m.Seen, saw(herd, place, max(0, day-r.below(2)), max(0, day)+r.below(2)))
	}
	return m
}

// P1.1 to P1.8: what is returned is what all truths, found one by one, say together; both ends of each span are those of one.
func TestAgainstEachTruth(t *testing.T) {
	r := chance(1)
	ways, clashes := 0, 0
	for range 400 {
		m := anyWay(&r)
		every := everyTruth(m)
		if len(every) > 4000 {
			continue
		}
		ways++
		list := rightOnes(m, every)
		if len(list) == 0 {
			clashes++
			if got, e := mob.Clash(m); got != fewestOf(m, every) || e != api.OK {
				t.Fatal(m, got, e, "want", fewestOf(m, every))
			}
			if got := fromInt(mob.Safe(m, 0)); got != failed(api.ErrClash) {
				t.Fatal(m, got)
			}
			continue
		}
		if got := fromInt(mob.Clash(m)); got != failed(api.ErrNone) {
			t.Fatal(m, got)
		}
		compareMobs(t, m, list)
		for range 12 {
			compareDay(t, m, list, r.below(45))
		}
	}
	if ways < 200 || clashes < 20 || ways-clashes < 100 {
		t.Error("too few ways", ways, clashes)
	}
}

func compareMobs(t *testing.T, m api.Mob, list []truth) {
	t.Helper()
	shed := len(m.Places) - 1
	for i, h := range m.Herds {
		for place := h.Start; place <= shed; place++ {
			want := spanOver(list, func(t truth) int { return t.comes[i][place] })
			if got, e := mob.Comes(m, i, place); got != want || e != api.OK {
				t.Fatal(m, "Comes", i, place, got, e, "want", want)
			}
		}
		want := spanOver(list, func(t truth) int { return t.stretch[i] })
		if got, e := mob.Stretch(m, i); got != want || e != api.OK {
			t.Fatal(m, "Stretch", i, got, e, "want", want)
		}
		safe := sure(list, func(t truth) bool { return t.stretch[i] <= h.Thirst })
		if got, e := mob.Safe(m, i); got != safe || e != api.OK {
			t.Fatal(m, "Safe", i, got, e, "want", safe)
		}
		for other := range m.Herds {
			ahead := sure(list, func(t truth) bool { return t.comes[i][shed] < t.comes[other][shed] })
			if got, e := mob.Ahead(m, i, other); got != ahead || e != api.OK {
				t.Fatal(m, "Ahead", i, other, got, e, "want", ahead)
			}
		}
	}
}

func compareDay(t *testing.T, m api.Mob, list []truth, day int) {
	t.Helper()
	shed := len(m.Places) - 1
	surely, perhaps := 0, 0
	for i, h := range m.Herds {
		switch sure(list, func(t truth) bool { return t.comes[i][shed] <= day }) {
		case api.MobAlways:
			surely |= 1 << i
			fallthrough
		case api.MobPerhaps:
			perhaps |= 1 << i
		}
		where := 0
		for _, t := range list {
			last := h.Start
			for place := h.Start; place <= shed; place++ {
				if t.comes[i][place] <= day {
					last = place
				}
			}
			where |= 1 << last
		}
		if got, e := mob.Where(m, i, day); got != where || e != api.OK {
			t.Fatal(m, "Where", i, day, got, e, "want", where)
		}
	}
	if a, b, e := mob.There(m, day); a != surely || b != perhaps || e != api.OK {
		t.Fatal(m, "There", day, a, b, e, "want", surely, perhaps)
	}
}

// The greatest way of all, with all legs and days as wide as they can be.
func TestGreatestWay(t *testing.T) {
	m := api.Mob{Legs: []api.Span{span(3, 5), span(1, 3), span(3, 5), span(2, 4), span(3, 5)}}
	for i := range api.MobPlaces {
		m.Places = append(m.Places, api.MobPlace{Water: i%2 == 0, Rest: i % 4})
	}
	for i := range api.MobHerds {
		m.Herds = append(m.Herds, herd(i, 27, 30, 5*i))
	}
	for i := range api.MobSeens {
		m.Seen = append(m.Seen, saw(i%api.MobHerds, 4, 0, 100))
	}
	compareMobs(t, m, everyTruth(m))
	compareDay(t, m, everyTruth(m), 40)
	m.Seen = []api.MobSeen{saw(0, 2, 33, 35), saw(1, 3, 35, 36), saw(2, 4, 34, 35), saw(3, 5, 35, 36), saw(0, 5, 47, 48)}
	every := everyTruth(m)
	list := rightOnes(m, every)
	if len(list) == 0 || len(list) == len(every) {
		t.Fatal(len(list))
	}
	compareMobs(t, m, list)
	compareDay(t, m, list, 36)
}
