package dry

import (
	"iter"
	"math/bits"

	"shearworks/api"
)

// wanted is what suits, and the error if nothing does.
type wanted[T any] struct {
	suits func(T) bool
	none  api.Errno
}

// first returns the first one that suits; it panics with the error if none does.
func first[T any](all iter.Seq[T], w wanted[T]) T {
	for x := range all {
		if w.suits(x) {
			return x
		}
	}
	panic(w.none)
}

// upward yields the integers of a span, the least one first.
func upward(s api.Span) iter.Seq[int] {
	return func(yield func(int) bool) {
		for n := s.Lo; n <= s.Hi; n++ {
			if !yield(n) {
				return
			}
		}
	}
}

// downward yields the integers of a span, the greatest one first.
func downward(s api.Span) iter.Seq[int] {
	return func(yield func(int) bool) {
		for n := s.Hi; n >= s.Lo; n-- {
			if !yield(n) {
				return
			}
		}
	}
}

// allOf returns the set of so many mobs, or pens.
func allOf(many int) int {
	return 1<<many - 1
}

func has(set, n int) bool {
	return set>>n&1 == 1
}

// sets yields each set of so many mobs, or pens, the least number first.
func sets(many int) iter.Seq[int] {
	return upward(api.Span{Lo: 0, Hi: allOf(many)})
}

// setsBySize yields each set of so many, the smallest ones first, and of one size the least number first.
func setsBySize(many int) iter.Seq[int] {
	return func(yield func(int) bool) {
		for size := range many + 1 {
			for set := range sets(many) {
				if bits.OnesCount(uint(set)) == size && !yield(set) {
					return
				}
			}
		}
	}
}
