package dry_test

import (
	"testing"

	"shearworks/api"
	"shearworks/dry"
)

// Nodes of a flow of wet sheep: out of the source into mobs, from these into pens, or into none, and into the sink.
const (
	source = iota
	sink
	above
	below
	firstMob
	firstPen = firstMob + api.DryMobs
	nodes    = firstPen + api.DryPens
)

// flow is how much more can flow from node to node, and how much must.
type flow struct {
	room [nodes][nodes]int
	must int
}

// pipe lets from s.Lo to s.Hi sheep flow; those that must are lent from above, and given back below.
func (f *flow) pipe(from, to int, s api.Span) {
	f.room[from][to] += s.Hi - s.Lo
	f.room[above][to] += s.Lo
	f.room[from][below] += s.Lo
	f.must += s.Lo
}

func (f *flow) push(node, sheep int, been *[nodes]bool) int {
	if node == below {
		return sheep
	}
	been[node] = true
	for next := range nodes {
		if been[next] || f.room[node][next] == 0 {
			continue
		}
		if n := f.push(next, min(sheep, f.room[node][next]), been); n > 0 {
			f.room[node][next] -= n
			f.room[next][node] += n
			return n
		}
	}
	return 0
}

// flows tells whether all that must flow can.
func (f *flow) flows() bool {
	for {
		n := f.push(above, 1000, &[nodes]bool{})
		if n == 0 {
			return f.must == 0
		}
		f.must -= n
	}
}

// flowOf returns whether there is a truth with so many wet sheep at all, and, in it, so many of a mob in a pen, if that is one.
func flowOf(d api.Dry, all, part api.Span, mob, pen int) bool {
	var f flow
	f.pipe(sink, source, all)
	for m, x := range d.Mobs {
		f.pipe(source, firstMob+m, x.Wet)
		f.pipe(firstMob+m, sink, span(0, x.Left))
	}
	for p, x := range d.Pens {
		f.pipe(firstPen+p, sink, x.Found)
		for m := range d.Mobs {
			s := span(0, x.From[m])
			if m == mob && p == pen {
				s = part
			}
			f.pipe(firstMob+m, firstPen+p, s)
		}
	}
	return f.flows()
}

// checkEnds checks that both ends of a span can be, and that the numbers beside them cannot.
func checkEnds(t *testing.T, d api.Dry, name string, got, limits api.Span, can func(n api.Span) bool) {
	t.Helper()
	for n, want := range map[int]bool{got.Lo: true, got.Hi: true, got.Lo - 1: false, got.Hi + 1: false} {
		if is := limits.Lo <= n && n <= limits.Hi && can(span(n, n)); is != want {
			t.Fatal(d, name, got, n, is)
		}
	}
}

// P2.1, P2.5 and P2.6 of as many sheep as there can be, compared with a flow.
func TestAgainstFlow(t *testing.T) {
	r := chance(2)
	every := span(0, api.DryMobs*api.DryWet)
	agreed, clashes := 0, 0
	for range 900 {
		d := anySheep(&r, 1+r.below(4), 1+r.below(5), 2+r.below(8))
		_, e := dry.Clash(d)
		if can := flowOf(d, every, span(0, 0), -1, -1); can != (e == api.ErrNone) {
			t.Fatal(d, e, can)
		}
		if e == api.OK {
			clashes++
			continue
		}
		agreed++
		all, _ := dry.All(d)
		checkEnds(t, d, "All", all, every, func(n api.Span) bool { return flowOf(d, n, span(0, 0), -1, -1) })
		for mob := range d.Mobs {
			got, _ := dry.Mob(d, mob)
			checkEnds(t, d, "Mob", got, d.Mobs[mob].Wet, func(n api.Span) bool {
				other := clone(d)
				other.Mobs[mob].Wet = n
				return flowOf(other, every, span(0, 0), -1, -1)
			})
		}
		for pen, p := range d.Pens {
			got, _ := dry.Pen(d, pen)
			checkEnds(t, d, "Pen", got, p.Found, func(n api.Span) bool {
				return flowOf(feltIn(d, pen, n), every, span(0, 0), -1, -1)
			})
			for mob := range d.Mobs {
				got, _ := dry.Part(d, mob, pen)
				checkEnds(t, d, "Part", got, span(0, p.From[mob]), func(n api.Span) bool { return flowOf(d, every, n, mob, pen) })
			}
		}
	}
	if agreed < 300 || clashes < 60 {
		t.Error("too few sheep of a kind", agreed, clashes)
	}
}

// greatest returns as many sheep as there can be, of which any can be wet.
func greatest() api.Dry {
	d := api.Dry{Limit: api.DryFound}
	for range api.DryMobs {
		d.Mobs = append(d.Mobs, herd(0, 54, 9))
	}
	for range api.DryPens {
		d.Pens = append(d.Pens, pen(0, 36, 9, 9, 9, 9))
	}
	return d
}

// The greatest number of sheep, all of which can be wet, are, or are not.
func TestGreatest(t *testing.T) {
	d := greatest()
	want := map[string]result{
		"Mob": fromSpan(span(0, 54), api.OK), "Pen": fromSpan(span(0, 36), api.OK), "Part": fromSpan(span(0, 9), api.OK),
		"Dry": fromInt(api.DryAlways, api.OK), "Shear": fromTwo(31, 31, api.OK), "Sheep": fromInt(180, api.OK),
		"All": fromSpan(span(0, 216), api.OK), "Clash": failed(api.ErrNone),
	}
	check := func() {
		t.Helper()
		for function, got := range callAll(d, 3, 4) {
			if got != want[function] {
				t.Error(function, got, "want", want[function])
			}
		}
	}
	check()
	for mob := range d.Mobs {
		d.Mobs[mob].Wet = span(54, 54)
	}
	d.Limit = 35
	want["Mob"], want["Pen"], want["Part"] = fromSpan(span(54, 54), api.OK), fromSpan(span(36, 36), api.OK), fromSpan(span(9, 9), api.OK)
	want["Dry"], want["Shear"], want["Sheep"] = fromInt(api.DryNever, api.OK), fromTwo(0, 0, api.OK), fromInt(0, api.OK)
	want["All"] = fromSpan(span(216, 216), api.OK)
	check()
	for mob := range d.Mobs {
		d.Mobs[mob].Wet = span(0, 54)
	}
	for pen := range d.Pens {
		d.Pens[pen].Found = span(36, 36)
	}
	want["Mob"], want["All"] = fromSpan(span(45, 54), api.OK), fromSpan(span(180, 216), api.OK)
	check()
}
