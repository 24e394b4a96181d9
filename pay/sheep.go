package pay

import "shearworks/api"

// hundred is for how many sheep the rate is paid.
const hundred = 100

// sheep is how many sheep there can be.
type sheep struct{ api.Span }

// impossible tells whether there can be no number of them.
func (s sheep) impossible() bool { return s.Lo > s.Hi }

// plus returns how many there are with others.
func (s sheep) plus(others sheep) sheep {
	return sheep{api.Span{Lo: s.Lo + others.Lo, Hi: s.Hi + others.Hi}}
}

// less returns how many are left of them without others.
func (s sheep) less(others sheep) sheep {
	return sheep{api.Span{Lo: s.Lo - others.Hi, Hi: s.Hi - others.Lo}}
}

// common returns how many there are if both are right.
func (s sheep) common(other sheep) sheep {
	return sheep{api.Span{Lo: max(s.Lo, other.Lo), Hi: min(s.Hi, other.Hi)}}
}

// wage returns what they bring, if they are shorn by one shearer, in one run.
func (s sheep) wage(rate int) api.Span {
	return api.Span{Lo: s.Lo * rate / hundred, Hi: s.Hi * rate / hundred}
}

// together returns how many there are of all.
func together(all ...sheep) sheep {
	var sum sheep
	for _, s := range all {
		sum = sum.plus(s)
	}
	return sum
}
