package dry_test

import (
	"math/bits"
	"reflect"
	"slices"
	"testing"

	"shearworks/api"
	"shearworks/dry"
)

// report is all that can be said of sheep.
type report struct {
	mobs, pens             []api.Span
	parts                  [][]api.Span // by mob, and by pen
	dry                    []int
	surely, perhaps, sheep int
	all                    api.Span
}

// reportOf returns ErrClash if there is no truth.
func reportOf(d api.Dry) (report, api.Errno) {
	var r report
	for mob := range d.Mobs {
		s, _ := dry.Mob(d, mob)
		r.mobs = append(r.mobs, s)
		var parts []api.Span
		for pen := range d.Pens {
			s, _ := dry.Part(d, mob, pen)
			parts = append(parts, s)
		}
		r.parts = append(r.parts, parts)
	}
	for pen := range d.Pens {
		s, _ := dry.Pen(d, pen)
		r.pens = append(r.pens, s)
		n, _ := dry.Dry(d, pen)
		r.dry = append(r.dry, n)
	}
	r.surely, r.perhaps, _ = dry.Shear(d)
	r.sheep, _ = dry.Sheep(d)
	var e api.Errno
	r.all, e = dry.All(d)
	return r, e
}

func clone(d api.Dry) api.Dry {
	d.Mobs, d.Pens = slices.Clone(d.Mobs), slices.Clone(d.Pens)
	return d
}

// feltIn returns the sheep with another finding of one pen.
func feltIn(d api.Dry, pen int, found api.Span) api.Dry {
	d = clone(d)
	d.Pens[pen].Found = found
	return d
}

func inSpan(inner, outer api.Span) bool { return outer.Lo <= inner.Lo && inner.Hi <= outer.Hi }

func asSure(now, before int) bool { return before == api.DryPerhaps || now == before }

func inSet(inner, outer int) bool { return inner&^outer == 0 }

// asExact tells whether nothing is said less exactly than before.
func asExact(now, before report) bool {
	for mob := range before.parts {
		if !slices.EqualFunc(now.parts[mob], before.parts[mob], inSpan) {
			return false
		}
	}
	return slices.EqualFunc(now.mobs, before.mobs, inSpan) && slices.EqualFunc(now.pens, before.pens, inSpan) &&
		slices.EqualFunc(now.dry, before.dry, asSure) && inSpan(now.all, before.all) &&
		inSet(before.surely, now.surely) && inSet(now.perhaps, before.perhaps) && now.sheep >= before.sheep
}

// narrower returns a span within another one.
func narrower(r *chance, s api.Span) api.Span {
	lo := s.Lo + r.below(s.Hi-s.Lo+1)
	return span(lo, lo+r.below(s.Hi-lo+1))
}

// P2.8 and P2: with a finding that is narrower, or more that is known of a mob, nothing is returned less exactly.
func TestNarrower(t *testing.T) {
	r := chance(3)
	compared := 0
	for range 400 {
		d := anySheep(&r, 1+r.below(4), 1+r.below(5), 1+r.below(5))
		d.Limit = r.below(9)
		before, e := reportOf(d)
		if e != api.OK {
			continue
		}
		pen := r.below(len(d.Pens))
		better := feltIn(d, pen, narrower(&r, d.Pens[pen].Found))
		if r.below(3) == 0 {
			mob := r.below(len(d.Mobs))
			better.Mobs[mob].Wet = narrower(&r, before.mobs[mob])
		}
		now, e := reportOf(better)
		if e == api.ErrClash {
			continue
		}
		compared++
		if e != api.OK || !asExact(now, before) {
			t.Fatal(d, better, before, now, e)
		}
	}
	if compared < 100 {
		t.Error("too few compared", compared)
	}
}

// P2.8: with the finding that is returned for a pen, or the number for a mob, all is as before.
func TestWhatIsReturned(t *testing.T) {
	r := chance(4)
	for range 100 {
		d := anySheep(&r, 1+r.below(4), 1+r.below(5), 1+r.below(5))
		before, e := reportOf(d)
		if e != api.OK {
			continue
		}
		same := clone(d)
		for pen, s := range before.pens {
			same.Pens[pen].Found = s
		}
		for mob, s := range before.mobs {
			same.Mobs[mob].Wet = s
		}
		if now, e := reportOf(same); e != api.OK || !reflect.DeepEqual(now, before) {
			t.Fatal(d, before, now, e)
		}
	}
}

// P2.8: if mobs are numbered otherwise only their numbers change.
func TestNumbersOfMobs(t *testing.T) {
	r := chance(5)
	for range 200 {
		d := anySheep(&r, 2+r.below(3), 1+r.below(5), 1+r.below(5))
		turned := clone(d)
		slices.Reverse(turned.Mobs)
		for pen := range turned.Pens {
			slices.Reverse(turned.Pens[pen].From[:len(d.Mobs)])
		}
		before, e := reportOf(d)
		now, f := reportOf(turned)
		slices.Reverse(now.mobs)
		slices.Reverse(now.parts)
		if e != f || !reflect.DeepEqual(now, before) {
			t.Fatal(d, before, e, now, f)
		}
		set, e := dry.Clash(d)
		if other, f := dry.Clash(turned); set != other || e != f {
			t.Fatal(d, set, e, other, f)
		}
	}
}

// P2.8: if pens are numbered otherwise only their numbers change.
func TestNumbersOfPens(t *testing.T) {
	r := chance(6)
	clashes := 0
	for range 300 {
		d := anySheep(&r, 1+r.below(4), 2+r.below(4), 1+r.below(5))
		last := len(d.Pens) - 1
		turned := clone(d)
		slices.Reverse(turned.Pens)
		before, e := reportOf(d)
		now, f := reportOf(turned)
		slices.Reverse(now.pens)
		slices.Reverse(now.dry)
		for mob := range now.parts {
			slices.Reverse(now.parts[mob])
		}
		now.surely, now.perhaps = reversed(now.surely, last), reversed(now.perhaps, last)
		if e != f || !reflect.DeepEqual(now, before) {
			t.Fatal(d, before, e, now, f)
		}
		set, e := dry.Clash(d)
		other, f := dry.Clash(turned)
		if e != f || bits.OnesCount(uint(set)) != bits.OnesCount(uint(other)) || set > reversed(other, last) {
			t.Fatal(d, set, e, other, f)
		}
		if e == api.OK {
			clashes++
			checkClash(t, d, set)
		}
	}
	if clashes < 30 {
		t.Error("too few clashes", clashes)
	}
}

// checkClash checks that the findings of the set clash, and that without any one of them they do not (P4).
func checkClash(t *testing.T, d api.Dry, set int) {
	t.Helper()
	for _, left := range []int{-1, 0, 1, 2, 3, 4} {
		if left >= 0 && set>>left&1 == 0 {
			continue
		}
		part := clone(d)
		for pen := range part.Pens {
			if set>>pen&1 == 0 || pen == left {
				part.Pens[pen].Found = span(0, api.DryFound)
			}
		}
		want := api.OK
		if left < 0 {
			want = api.ErrClash
		}
		if _, e := dry.All(part); e != want {
			t.Fatal(d, set, left, e)
		}
	}
}

// reversed returns the set of last - n for each n of a set.
func reversed(set, last int) int {
	turned := 0
	for n := range last + 1 {
		turned |= set >> n & 1 << (last - n)
	}
	return turned
}
