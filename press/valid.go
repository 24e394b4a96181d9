package press

import "shearworks/api"

// valid tells whether a press is valid.
func valid(p api.Press) bool {
	return validFleeces(p.Fleeces) && spanWithin(api.Span{Lo: p.Low, Hi: p.Top}, api.PressTop) &&
		within(p.Bales, 0, api.PressBales) && validWeighed(p)
}

func validFleeces(fleeces []api.PressFleece) bool {
	if len(fleeces) > api.PressFleeces {
		return false
	}
	for _, f := range fleeces {
		if !spanWithin(f.Weight, api.PressWeight) || f.Weight.Hi-f.Weight.Lo > api.PressWide || !within(f.Line, 0, api.PressLines-1) {
			return false
		}
	}
	return true
}

func validWeighed(p api.Press) bool {
	if len(p.Weighed) > api.PressWeighed {
		return false
	}
	taken := 0
	for _, b := range p.Weighed {
		if b.Fleeces == 0 || !isSet(b.Fleeces, len(p.Fleeces)) || b.Fleeces&taken != 0 || !spanWithin(b.Weight, api.PressTop) {
			return false
		}
		taken |= b.Fleeces
	}
	return true
}

// isSet tells whether a number is a set of some of so many.
func isSet(set, many int) bool {
	return within(set, 0, 1<<many-1)
}

// spanWithin tells whether a span is valid and within 1 to a number.
func spanWithin(s api.Span, high int) bool {
	return 1 <= s.Lo && s.Lo <= s.Hi && s.Hi <= high
}

func within(n, low, high int) bool {
	return low <= n && n <= high
}
