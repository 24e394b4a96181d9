package dry_test

import (
	"math/bits"
	"testing"

	"shearworks/api"
	"shearworks/dry"
)

// chance is a sequence of numbers that is the same in each run.
type chance uint64

func (c *chance) below(n int) int {
	*c = *c*6364136223846793005 + 1442695040888963407
	return int(uint64(*c)>>33) % n
}

// around returns a span that mostly contains a number, within 0..high; wide ones say little, narrow ones soon clash.
func (c *chance) around(n, high, wide int) api.Span {
	lo := n - c.below(wide)
	hi := n + c.below(wide)
	if c.below(5) == 0 {
		astray := c.below(5) - 2
		lo, hi = lo+astray, hi+astray
	}
	return span(min(max(0, lo), high), min(max(0, hi), high))
}

// truth is how many sheep of each mob are wet in each pen, and in none.
type truth struct {
	part [api.DryMobs][api.DryPens]int
	left [api.DryMobs]int
}

func (w truth) mob(mob int) int {
	n := w.left[mob]
	for _, sheep := range w.part[mob] {
		n += sheep
	}
	return n
}

func (w truth) pen(pen int) int {
	n := 0
	for mob := range w.part {
		n += w.part[mob][pen]
	}
	return n
}

func (w truth) all() int {
	n := 0
	for mob := range w.part {
		n += w.mob(mob)
	}
	return n
}

// everyTruth calls a function with each way in which sheep can be wet, one by one, whatever is known of mobs and was found in pens.
func everyTruth(d api.Dry, see func(w truth)) {
	var w truth
	var choose func(mob, pen int)
	choose = func(mob, pen int) {
		switch {
		case mob == len(d.Mobs):
			see(w)
		case pen == len(d.Pens):
			for n := range d.Mobs[mob].Left + 1 {
				w.left[mob] = n
				choose(mob+1, 0)
			}
		default:
			for n := range d.Pens[pen].From[mob] + 1 {
				w.part[mob][pen] = n
				choose(mob, pen+1)
			}
		}
	}
	choose(0, 0)
}

// numbers are those that something is in some truth.
type numbers map[int]bool

// span returns from the least to the greatest one; P2.8: those between them are such numbers, too.
func (l numbers) span(t *testing.T) api.Span {
	t.Helper()
	s := span(1000, -1)
	for n := range l {
		s.Lo, s.Hi = min(s.Lo, n), max(s.Hi, n)
	}
	if s.Hi-s.Lo+1 != len(l) {
		t.Fatal("not all are those of a truth", l)
	}
	return s
}

// survey is what all truths say together.
type survey struct {
	mobs, pens, all map[int]numbers
	parts           map[[2]int]numbers
	agree           map[int]bool // the sets of pens whose findings are right in some truth with what is known of mobs
}

func note[K comparable](l map[K]numbers, of K, n int) {
	if l[of] == nil {
		l[of] = numbers{}
	}
	l[of][n] = true
}

func surveyOf(d api.Dry) survey {
	s := survey{map[int]numbers{}, map[int]numbers{}, map[int]numbers{}, map[[2]int]numbers{}, map[int]bool{}}
	everyTruth(d, func(w truth) {
		for mob, m := range d.Mobs {
			if n := w.mob(mob); n < m.Wet.Lo || m.Wet.Hi < n {
				return
			}
		}
		right := 0
		for pen, p := range d.Pens {
			if n := w.pen(pen); p.Found.Lo <= n && n <= p.Found.Hi {
				right |= 1 << pen
			}
		}
		for set := range 1 << len(d.Pens) {
			if right&set == set {
				s.agree[set] = true
			}
		}
		if right == 1<<len(d.Pens)-1 {
			s.add(d, w)
		}
	})
	return s
}

func (s survey) add(d api.Dry, w truth) {
	note(s.all, 0, w.all())
	for pen := range d.Pens {
		note(s.pens, pen, w.pen(pen))
	}
	for mob := range d.Mobs {
		note(s.mobs, mob, w.mob(mob))
		for pen := range d.Pens {
			note(s.parts, [2]int{mob, pen}, w.part[mob][pen])
		}
	}
}

// fewest returns the fewest pens whose findings are right together in no truth.
func (s survey) fewest(pens int) int {
	for many := 1; many <= pens; many++ {
		for set := range 1 << pens {
			if bits.OnesCount(uint(set)) == many && !s.agree[set] {
				return set
			}
		}
	}
	return 0
}

// anySheep returns valid sheep, at most so many of a mob in a pen; what was found of them mostly is right.
func anySheep(r *chance, mobs, pens, most int) api.Dry {
	d := api.Dry{Limit: r.below(4)}
	wide := 1 + r.below(3)
	var happened truth
	for mob := range mobs {
		left := r.below(min(most, 3) + 1)
		d.Mobs = append(d.Mobs, herd(0, 0, left))
		happened.left[mob] = r.below(left + 1)
	}
	for pen := range pens {
		d.Pens = append(d.Pens, api.DryPen{})
		for mob := range mobs {
			sheep := r.below(most + 1)
			d.Pens[pen].From[mob] = sheep
			happened.part[mob][pen] = r.below(sheep + 1)
		}
		d.Pens[pen].Found = r.around(happened.pen(pen), api.DryFound, wide)
	}
	for mob := range mobs {
		wet := r.around(happened.mob(mob), api.DryWet, wide)
		sheep := d.Mobs[mob].Left
		for _, p := range d.Pens {
			sheep += p.From[mob]
		}
		wet.Lo = min(wet.Lo, sheep)
		d.Mobs[mob].Wet = wet
	}
	return d
}

// P2.1 to P2.6 and P2.8: what is returned is what all truths, found one by one, say together.
func TestAgainstEachTruth(t *testing.T) {
	r := chance(1)
	clashes, agreed := map[int]int{}, 0
	for _, size := range [][3]int{{1, 1, 9}, {1, 2, 4}, {1, 5, 3}, {2, 1, 6}, {2, 2, 3}, {2, 3, 2}, {3, 2, 2}, {3, 3, 1}, {4, 1, 2}, {4, 2, 1}, {2, 5, 1}, {4, 3, 1}} {
		for range 80 {
			d := anySheep(&r, size[0], size[1], size[2])
			s := surveyOf(d)
			if fewest := s.fewest(len(d.Pens)); fewest != 0 {
				clashes[bits.OnesCount(uint(fewest))]++
				if got, e := dry.Clash(d); got != fewest || e != api.OK {
					t.Fatal(d, got, e, "want", fewest)
				}
				for function, got := range callAll(d, 0, 0) {
					if function != "Clash" && got != failed(api.ErrClash) {
						t.Fatal(d, function, got)
					}
				}
				continue
			}
			agreed++
			if got := fromInt(dry.Clash(d)); got != failed(api.ErrNone) {
				t.Fatal(d, got)
			}
			compareSpans(t, d, s)
			compareDry(t, d, s)
		}
	}
	if agreed < 200 || clashes[1] < 50 || clashes[2] < 10 {
		t.Error("too few sheep of a kind", agreed, clashes)
	}
}

func compareSpans(t *testing.T, d api.Dry, s survey) {
	t.Helper()
	if got, e := dry.All(d); got != s.all[0].span(t) || e != api.OK {
		t.Fatal(d, "All", got, e, "want", s.all)
	}
	for pen := range d.Pens {
		if got, e := dry.Pen(d, pen); got != s.pens[pen].span(t) || e != api.OK {
			t.Fatal(d, "Pen", pen, got, e, "want", s.pens[pen])
		}
	}
	for mob := range d.Mobs {
		if got, e := dry.Mob(d, mob); got != s.mobs[mob].span(t) || e != api.OK {
			t.Fatal(d, "Mob", mob, got, e, "want", s.mobs[mob])
		}
		for pen := range d.Pens {
			want := s.parts[[2]int{mob, pen}]
			if got, e := dry.Part(d, mob, pen); got != want.span(t) || e != api.OK {
				t.Fatal(d, "Part", mob, pen, got, e, "want", want)
			}
		}
	}
}

func compareDry(t *testing.T, d api.Dry, s survey) {
	t.Helper()
	surely, perhaps, sheep := 0, 0, 0
	for pen, p := range d.Pens {
		wet := s.pens[pen].span(t)
		want := api.DryPerhaps
		switch {
		case wet.Hi <= d.Limit:
			want = api.DryAlways
			surely |= 1 << pen
			for mob := range d.Mobs {
				sheep += p.From[mob]
			}
		case wet.Lo > d.Limit:
			want = api.DryNever
		}
		if want != api.DryNever {
			perhaps |= 1 << pen
		}
		if got, e := dry.Dry(d, pen); got != want || e != api.OK {
			t.Fatal(d, "Dry", pen, got, e, "want", want)
		}
	}
	if a, b, e := dry.Shear(d); a != surely || b != perhaps || e != api.OK {
		t.Fatal(d, "Shear", a, b, e, "want", surely, perhaps)
	}
	if got, e := dry.Sheep(d); got != sheep || e != api.OK {
		t.Fatal(d, "Sheep", got, e, "want", sheep)
	}
}
