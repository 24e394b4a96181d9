package river

import (
	"slices"

	"shearworks/api"
)

// wanted is what suits, and the error if nothing does.
type wanted[T any] struct {
	suits func(T) bool
	none  api.Errno
}

// last returns the last one that suits; it panics with the error if none does.
func last[T any](list []T, w wanted[T]) T {
	for _, x := range slices.Backward(list) {
		if w.suits(x) {
			return x
		}
	}
	panic(w.none)
}
