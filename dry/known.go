package dry

import "shearworks/api"

// known is a flock, and what was found of it: whether there is a truth if something is supposed.
type known struct {
	flock flock
	can   map[supposed]bool
}

// supposed is that the findings of a set of pens are taken, and no others, and what is held fixed then.
type supposed struct {
	findings int
	held     held
}

func know(d api.Dry) known {
	return known{flock: flockOf(d), can: map[supposed]bool{}}
}

// possible tells whether there is a truth if something is supposed; the flock of which it is so then is asked for only once.
func (k known) possible(s supposed, of func() flock) bool {
	can, before := k.can[s]
	if !before {
		can = of().possible()
		k.can[s] = can
	}
	return can
}

// agree tells whether the findings of a set of pens alone can all be right.
func (k known) agree(findings int) bool {
	nothing := held{mob: unheld, pen: unheld}
	return k.possible(supposed{findings: findings, held: nothing}, func() flock {
		return k.flock.taking(findings)
	})
}

// canBe tells whether just n of the sheep can be wet.
func (k known) canBe(q asked, n int) bool {
	every := allOf(len(k.flock.pens))
	return k.possible(supposed{findings: every, held: q.named(n)}, func() flock {
		return q.hold(k.flock, n)
	})
}

// span returns how many of the sheep can be wet; it panics if no number can be.
func (k known) span(q asked) api.Span {
	can := wanted[int]{suits: func(n int) bool { return k.canBe(q, n) }, none: api.ErrClash}
	given := q.given(k.flock)
	return api.Span{Lo: first(upward(given), can), Hi: first(downward(given), can)}
}
