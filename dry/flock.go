package dry

import "shearworks/api"

// wet is how many sheep of each mob are wet, or can be.
type wet [api.DryMobs]int

// all returns how many they are together.
func (w wet) all() int {
	return sum(w[:]...)
}

// among returns how many of them are of a set of mobs.
func (w wet) among(mobs int) int {
	for mob := range w {
		if !has(mobs, mob) {
			w[mob] = 0
		}
	}
	return w.all()
}

// sum adds sheep.
func sum(sheep ...int) int {
	all := 0
	for _, n := range sheep {
		all += n
	}
	return all
}

// penned is how many sheep of each mob are in a pen, any of which can be wet, and how many of them all were found to be.
type penned struct {
	from  wet
	found api.Span
}

// flock is how many mobs there are, the fewest and the most sheep of each that are wet, how many of it are in no pen, and the pens.
type flock struct {
	mobs              int
	least, most, left wet
	pens              []penned
}

// flockOf leaves out what pens say of mobs that are none.
func flockOf(d api.Dry) flock {
	f := flock{mobs: len(d.Mobs)}
	for number, m := range d.Mobs {
		f.least[number], f.most[number], f.left[number] = m.Wet.Lo, m.Wet.Hi, m.Left
	}
	for _, p := range d.Pens {
		pen := penned{found: p.Found}
		copy(pen.from[:], p.From[:len(d.Mobs)])
		f.pens = append(f.pens, pen)
	}
	return f
}

// inPens adds what is counted of the sheep of each pen of a set.
func (f flock) inPens(pens int, count func(wet) int) int {
	all := 0
	for number, p := range f.pens {
		if has(pens, number) {
			all = sum(all, count(p.from))
		}
	}
	return all
}

// taking returns the flock with the findings of a set of pens alone: of the other pens any number can be wet.
func (f flock) taking(findings int) flock {
	pens := make([]penned, len(f.pens))
	copy(pens, f.pens) // those of the flock keep their findings
	for number, p := range pens {
		if !has(findings, number) {
			pens[number].found = api.Span{Lo: 0, Hi: p.from.all()}
		}
	}
	f.pens = pens
	return f
}

// room returns how many sheep of a set of mobs can be wet if no others are.
func (f flock) room(mobs int) int {
	room := f.left.among(mobs)
	for _, p := range f.pens {
		room += min(p.found.Hi, p.from.among(mobs))
	}
	return room
}

// need returns how many sheep of a set of mobs must be wet in pens even if all others there are.
func (f flock) need(mobs int) int {
	others := allOf(f.mobs) &^ mobs
	need := 0
	for _, p := range f.pens {
		need += max(0, p.found.Lo-p.from.among(others))
	}
	return need
}

// bound is two numbers of a set of mobs, the first of which must not be greater.
type bound struct {
	low, high func(mobs int) int
}

// possible tells whether there is a truth. Wet sheep flow from their mobs into pens, so by Hoffman's theorem on flows with lower bounds there is one just if no cut forbids it; of the cuts with one set of mobs these two are the worst.
func (f flock) possible() bool {
	bounds := [...]bound{{low: f.least.among, high: f.room}, {low: f.need, high: f.most.among}}
	can := true
search:
	for mobs := range sets(f.mobs) {
		for _, b := range bounds {
			if b.low(mobs) > b.high(mobs) {
				can = false
				break search
			}
		}
	}
	return can
}

// all returns how many sheep of all mobs can be wet, if there is a truth. These are the cuts that part what flows into the mobs from what flows out of the pens.
func (f flock) all() api.Span {
	all := api.Span{Lo: 0, Hi: f.most.all()}
	for mobs := range sets(f.mobs) {
		others := allOf(f.mobs) &^ mobs
		all.Lo = max(all.Lo, f.least.among(mobs)+f.need(others))
		all.Hi = min(all.Hi, f.most.among(mobs)+f.room(others))
	}
	return all
}
