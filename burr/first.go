package burr

import (
	"iter"

	"shearworks/api"
)

// wanted is what suits, and the error if nothing does.
type wanted[T any] struct {
	suits func(T) bool
	none  api.Errno
}

// first returns the first one that suits; it panics with the error if none does.
func first[T any](list iter.Seq[T], w wanted[T]) T {
	for x := range list {
		if w.suits(x) {
			return x
		}
	}
	panic(w.none)
}

// setsBySize yields each set of some of so many, the smallest ones first, and of one size the least number first.
func setsBySize(many int) iter.Seq[int] {
	return func(yield func(int) bool) {
		for count := range many + 1 {
			for set := range 1 << many {
				if size(set) == count && !yield(set) {
					return
				}
			}
		}
	}
}
