package river

import (
	"iter"

	"shearworks/api"
)

func exactly(n int) api.Span { return api.Span{Lo: n, Hi: n} }

// numbers yields each integer of a span, the least one first.
func numbers(s api.Span) iter.Seq[int] {
	return func(yield func(int) bool) {
		for n := s.Lo; n <= s.Hi; n++ {
			if !yield(n) {
				return
			}
		}
	}
}

// joined returns the least span that contains all of them; there is at least one.
func joined(spans ...api.Span) api.Span {
	all := spans[0]
	for _, s := range spans {
		all = api.Span{Lo: min(all.Lo, s.Lo), Hi: max(all.Hi, s.Hi)}
	}
	return all
}

// common returns what is in both spans; it is not valid if there is nothing.
func common(a, b api.Span) api.Span {
	return api.Span{Lo: max(a.Lo, b.Lo), Hi: min(a.Hi, b.Hi)}
}
