package tally

import "shearworks/api"

// valid tells whether a tally is valid.
func valid(t api.Tally) bool {
	return within(t.Shearers, 1, api.TallyShearers) && within(t.Most, 0, api.TallyMost) && validStrays(t) && validCalls(t)
}

func validStrays(t api.Tally) bool {
	if len(t.Strays) != t.Shearers-1 {
		return false
	}
	for _, s := range t.Strays {
		if !spanWithin(s, -api.TallyStray, api.TallyStray) {
			return false
		}
	}
	return true
}

func validCalls(t api.Tally) bool {
	if len(t.Calls) > api.TallyCalls {
		return false
	}
	for _, c := range t.Calls {
		if !validCall(t, c) {
			return false
		}
	}
	return true
}

// validCall tells whether a call is valid; one by fleeces is at no place.
func validCall(t api.Tally, c api.TallyCall) bool {
	switch c.Kind {
	case api.TallyPort, api.TallyPen:
		return isShearer(t, c.At) && spanWithin(c.Sheep, 0, api.TallySheep)
	case api.TallyFleece:
		return spanWithin(c.Sheep, 0, api.TallySheep)
	}
	return false
}

func isShearer(t api.Tally, shearer int) bool {
	return within(shearer, 0, t.Shearers-1)
}

func within(n, low, high int) bool {
	return low <= n && n <= high
}

// spanWithin tells whether a span is valid, and contains nothing beyond the bounds.
func spanWithin(s api.Span, low, high int) bool {
	return low <= s.Lo && s.Lo <= s.Hi && s.Hi <= high
}
