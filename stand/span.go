package stand

import (
	"iter"

	"shearworks/api"
)

// question is what is asked of each of several things, and about what.
type question[T, A any] struct {
	about  A
	answer func(T, A) int
}

// spanOf returns the span from the least to the greatest answer.
func spanOf[T, A any](all iter.Seq[T], q question[T, A]) api.Span {
	var spans []api.Span
	for x := range all {
		n := q.answer(x, q.about)
		spans = append(spans, api.Span{Lo: n, Hi: n})
	}
	return join(spans...)
}

// join returns the least span that contains all of them; it panics if there are none, as there is no empty span.
func join(spans ...api.Span) api.Span {
	if len(spans) == 0 {
		panic(api.ErrClash)
	}
	whole := spans[0]
	for _, s := range spans {
		whole = api.Span{Lo: min(whole.Lo, s.Lo), Hi: max(whole.Hi, s.Hi)}
	}
	return whole
}
