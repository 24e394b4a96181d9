package dry

import "shearworks/api"

// asked is some sheep of which it is asked how many are wet.
type asked interface {
	// given returns how many are, by what is given of them alone.
	given(f flock) api.Span
	// named returns what is held fixed if just n are.
	named(n int) held
	// hold returns the flock of which just n are, if n is one of the numbers that are given.
	hold(f flock, n int) flock
}

// unheld is the number of a mob, or of a pen, where none is held.
const unheld = -1

// held is that just so many sheep are wet: of a mob, of a pen, or of a mob in a pen.
type held struct{ mob, pen, wet int }

type ofMob struct{ mob int }

func (q ofMob) given(f flock) api.Span {
	return api.Span{Lo: f.least[q.mob], Hi: f.most[q.mob]}
}

func (q ofMob) named(n int) held { return held{mob: q.mob, pen: unheld, wet: n} }

func (q ofMob) hold(f flock, n int) flock {
	f.least[q.mob], f.most[q.mob] = n, n
	return f
}

type ofPen struct{ pen int }

// of returns the pen.
func (q ofPen) of(f flock) penned { return f.pens[q.pen] }

// instead returns the flock with another pen in its place.
func (q ofPen) instead(f flock, p penned) flock {
	pens := make([]penned, len(f.pens))
	copy(pens, f.pens) // the flock itself is held at other numbers later
	pens[q.pen] = p
	f.pens = pens
	return f
}

func (q ofPen) given(f flock) api.Span { return q.of(f).found }

func (q ofPen) named(n int) held { return held{mob: unheld, pen: q.pen, wet: n} }

func (q ofPen) hold(f flock, n int) flock {
	p := q.of(f)
	p.found = api.Span{Lo: n, Hi: n}
	return q.instead(f, p)
}

type ofPart struct {
	ofPen
	mob int
}

func (q ofPart) given(f flock) api.Span {
	return api.Span{Lo: 0, Hi: q.of(f).from[q.mob]}
}

func (q ofPart) named(n int) held { return held{mob: q.mob, pen: q.pen, wet: n} }

// hold takes the mob out of the pen: the n wet ones are counted, and need not be looked for any more. A greatest number below 0 shows that there were too many.
func (q ofPart) hold(f flock, n int) flock {
	p := q.of(f)
	p.from[q.mob] = 0
	p.found = fewer(p.found, n)
	f.least[q.mob] -= n
	f.most[q.mob] -= n
	return q.instead(f, p)
}

// fewer returns the span of as many less n.
func fewer(s api.Span, n int) api.Span {
	return api.Span{Lo: s.Lo - n, Hi: s.Hi - n}
}
