package dry

import "shearworks/api"

// valid tells whether sheep are valid. Wet comes last: it is compared with numbers that have to be valid themselves.
func valid(d api.Dry) bool {
	return within(len(d.Mobs), 1, api.DryMobs) && within(len(d.Pens), 1, api.DryPens) &&
		within(d.Limit, 0, api.DryFound) && validPens(d) && validMobs(d)
}

func validPens(d api.Dry) bool {
	for _, p := range d.Pens {
		for _, sheep := range p.From[:len(d.Mobs)] {
			if !within(sheep, 0, api.DryFrom) {
				return false
			}
		}
		if !spanWithin(p.Found, 0, api.DryFound) {
			return false
		}
	}
	return true
}

func validMobs(d api.Dry) bool {
	for number, m := range d.Mobs {
		if !within(m.Left, 0, api.DryFrom) || !spanWithin(m.Wet, 0, api.DryWet) {
			return false
		}
		if m.Wet.Lo > sheepOf(d, number) {
			return false
		}
	}
	return true
}

// sheepOf returns how many sheep a mob has.
func sheepOf(d api.Dry, mob int) int {
	sheep := d.Mobs[mob].Left
	for _, p := range d.Pens {
		sheep = sum(sheep, p.From[mob])
	}
	return sheep
}

func isMob(d api.Dry, mob int) bool {
	return within(mob, 0, len(d.Mobs)-1)
}

func isPen(d api.Dry, pen int) bool {
	return within(pen, 0, len(d.Pens)-1)
}

func within(n, low, high int) bool {
	return low <= n && n <= high
}

func spanWithin(s api.Span, low, high int) bool {
	return low <= s.Lo && s.Lo <= s.Hi && s.Hi <= high
}
