package press

import (
	"iter"

	"shearworks/api"
)

// wanted is what suits, and the error if nothing does.
type wanted[T any] struct {
	suits func(T) bool
	none  api.Errno
}

// first returns the first one that suits; it panics with the error if none does.
func first[T any](list iter.Seq[T], w wanted[T]) T {
	for x := range list {
		if w.suits(x) {
			return x
		}
	}
	panic(w.none)
}
