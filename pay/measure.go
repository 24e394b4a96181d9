package pay

import (
	"cmp"
	"slices"
)

// measure is by what things are put in order.
type measure[T any] struct{ of func(T) int }

// greatestFirst returns the things, those of the greatest measure first; things of one measure stay in their order.
func greatestFirst[T any](things []T, m measure[T]) []T {
	list := make([]T, len(things))
	copy(list, things) // those that were given stay in their order
	slices.SortStableFunc(list, func(a, b T) int { return cmp.Compare(m.of(b), m.of(a)) })
	return list
}
