package classer

import (
	"iter"

	"shearworks/api"
)

// nothing returns a span of no number. Joined with another span it says nothing, also after all fleeces there are have been added to it.
func nothing() api.Span { return api.Span{Lo: never, Hi: -never} }

// exactly returns the span of one number.
func exactly(n int) api.Span { return api.Span{Lo: n, Hi: n} }

// joined returns the span from the least to the greatest number of two spans.
func joined(a, b api.Span) api.Span {
	return api.Span{Lo: min(a.Lo, b.Lo), Hi: max(a.Hi, b.Hi)}
}

// fromTo yields the numbers from one to another one, and none if that is less.
func fromTo(low, high int) iter.Seq[int] {
	return func(yield func(int) bool) {
		for n := low; n <= high; n++ {
			if !yield(n) {
				return
			}
		}
	}
}
