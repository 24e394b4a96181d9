package press

import "shearworks/api"

// weight is how heavy something can be, each integer of it; it is torn if that cannot be at all.
type weight struct{ api.Span }

func (w weight) torn() bool { return w.Lo > w.Hi }

// holds tells whether another weight is within this one, whichever it is.
func (w weight) holds(other weight) bool { return w.Lo <= other.Lo && other.Hi <= w.Hi }

// meets tells whether another weight can be within this one.
func (w weight) meets(other weight) bool { return !w.both(other).torn() }

// both returns the weight if two are known of the same.
func (w weight) both(other weight) weight {
	return weight{api.Span{Lo: max(w.Lo, other.Lo), Hi: min(w.Hi, other.Hi)}}
}

// less returns what is left of a weight without another one.
func (w weight) less(other weight) weight {
	return weight{api.Span{Lo: w.Lo - other.Hi, Hi: w.Hi - other.Lo}}
}

// sum returns the weight of all together.
func sum(weights ...weight) weight {
	var all weight
	for _, w := range weights {
		all.Lo += w.Lo
		all.Hi += w.Hi
	}
	return all
}
