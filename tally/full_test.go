package tally_test

import (
	"testing"

	"shearworks/api"
	"shearworks/tally"
)

// gone is what can be so at a place: by how many the shearers before it have shorn together, and by how many (and TallyStray more) strayed past it, whether it can.
type gone [api.TallySheep + 1][2*api.TallyStray + 1]bool

// shed is a tally with spans for what each can have shorn, what there can be in pens, and what all can have shorn together.
type shed struct {
	shorn, pens, strays []api.Span
	all                 api.Span
}

// crossed returns what is in both spans.
func crossed(a, b api.Span) api.Span { return span(max(a.Lo, b.Lo), min(a.Hi, b.Hi)) }

// shedOf returns the shed of a tally; its strays are those past each place.
func shedOf(x api.Tally) shed {
	s := shed{strays: []api.Span{{}}, all: span(0, api.TallySheep)}
	for range x.Shearers {
		s.shorn, s.pens = append(s.shorn, span(0, x.Most)), append(s.pens, span(0, 1<<20))
	}
	s.strays = append(append(s.strays, x.Strays...), api.Span{})
	for _, c := range x.Calls {
		switch c.Kind {
		case api.TallyPort:
			s.shorn[c.At] = crossed(s.shorn[c.At], c.Sheep)
		case api.TallyPen:
			s.pens[c.At] = crossed(s.pens[c.At], c.Sheep)
		case api.TallyFleece:
			s.all = crossed(s.all, c.Sheep)
		}
	}
	return s
}

// step goes from each state before a shearer that can be so to each behind it.
func (s shed) step(shearer int, before gone, to func(sheep, came, shorn, went int)) {
	for sheep := range before {
		for came := -api.TallyStray; came <= api.TallyStray; came++ {
			if !before[sheep][came+api.TallyStray] {
				continue
			}
			for shorn := s.shorn[shearer].Lo; shorn <= s.shorn[shearer].Hi; shorn++ {
				for went := s.strays[shearer+1].Lo; went <= s.strays[shearer+1].Hi; went++ {
					if holds(s.pens[shearer], shorn+came-went) && sheep+shorn <= api.TallySheep {
						to(sheep, came, shorn, went)
					}
				}
			}
		}
	}
}

// places returns what can be so at each place in some truth, and whether there is one.
func (s shed) places() ([]gone, bool) {
	list := make([]gone, len(s.shorn)+1)
	list[0][0][api.TallyStray] = true
	for shearer := range s.shorn {
		s.step(shearer, list[shearer], func(sheep, came, shorn, went int) {
			list[shearer+1][sheep+shorn][went+api.TallyStray] = true
		})
	}
	end, can := &list[len(s.shorn)], false
	for sheep := range end {
		end[sheep][api.TallyStray] = end[sheep][api.TallyStray] && holds(s.all, sheep)
		can = can || end[sheep][api.TallyStray]
	}
	for shearer := len(s.shorn) - 1; shearer >= 0; shearer-- {
		var left gone // what can go on to the end
		s.step(shearer, list[shearer], func(sheep, came, shorn, went int) {
			if list[shearer+1][sheep+shorn][went+api.TallyStray] {
				left[sheep][came+api.TallyStray] = true
			}
		})
		list[shearer] = left
	}
	return list, can
}

// widened returns the span with a number more.
func widened(s *api.Span, n int) *api.Span {
	if s == nil {
		return &api.Span{Lo: n, Hi: n}
	}
	return &api.Span{Lo: min(s.Lo, n), Hi: max(s.Hi, n)}
}

// P5.1 and P5.2 of many sheep: what is returned is what is found by going from shearer to shearer, with each number of sheep.
func TestManySheep(t *testing.T) {
	r := chance(11)
	clashes := 0
	for range 300 {
		x := anyTally(&r, big())
		s := shedOf(x)
		list, can := s.places()
		if _, e := tally.Shorn(x, 0); (e == api.OK) != can {
			t.Fatal(x, e, can)
		}
		if !can {
			clashes++
			continue
		}
		for shearer := range x.Shearers {
			var shorn, pens, strays, together *api.Span
			s.step(shearer, list[shearer], func(sheep, came, many, went int) {
				if list[shearer+1][sheep+many][went+api.TallyStray] {
					shorn, pens, strays, together = widened(shorn, many), widened(pens, many+came-went), widened(strays, went), widened(together, sheep+many)
				}
			})
			if got, e := tally.Shorn(x, shearer); got != *shorn || e != api.OK {
				t.Fatal(x, "Shorn", shearer, got, e, "want", *shorn)
			}
			if got, e := tally.Pen(x, shearer); got != *pens || e != api.OK {
				t.Fatal(x, "Pen", shearer, got, e, "want", *pens)
			}
			if got, e := tally.Together(x, 0, shearer); got != *together || e != api.OK {
				t.Fatal(x, "Together", shearer, got, e, "want", *together)
			}
			if got, e := tally.Stray(x, shearer); shearer < x.Shearers-1 && (got != *strays || e != api.OK) {
				t.Fatal(x, "Stray", shearer, got, e, "want", *strays)
			}
		}
	}
	if clashes > 150 {
		t.Error("clashes", clashes)
	}
}
