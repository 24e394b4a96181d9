package mob

import (
	"iter"

	"shearworks/api"
)

// question is what is asked of something: the span that it has.
type question[T any] struct {
	span func(T) api.Span
}

// over returns the span from the least to the greatest end of all answers; there is at least one.
func over[T any](all iter.Seq[T], q question[T]) api.Span {
	var spans []api.Span
	for x := range all {
		spans = append(spans, q.span(x))
	}
	return join(spans[0], spans[1:]...)
}

// join returns the least span that contains all of them.
func join(first api.Span, others ...api.Span) api.Span {
	for _, s := range others {
		first.Lo = min(first.Lo, s.Lo)
		first.Hi = max(first.Hi, s.Hi)
	}
	return first
}

// common returns what is in both spans; it is not valid if there is nothing.
func common(a, b api.Span) api.Span {
	return api.Span{Lo: max(a.Lo, b.Lo), Hi: min(a.Hi, b.Hi)}
}

// later returns the span so many days later.
func later(s api.Span, days int) api.Span {
	return api.Span{Lo: s.Lo + days, Hi: s.Hi + days}
}
