package river

import (
	"slices"

	"shearworks/api"
)

// possible tells whether there is a truth.
func possible(r api.River) bool {
	for range courses(r) {
		return true
	}
	return false
}

// fewest returns the set of the fewest looks with which alone there is no truth, if there is none with all of them.
func fewest(r api.River) int {
	best := set(1)<<len(r.Looks) - 1
	for looks := range best {
		if looks.size() < best.size() && !possible(only(r, looks)) {
			best = looks
		}
	}
	return int(best)
}

// only returns the river with the looks of a set alone.
func only(r api.River, looks set) api.River {
	left := make([]api.RiverLook, len(r.Looks))
	copy(left, r.Looks) // what is left out of it stays in the argument
	for number := len(left) - 1; number >= 0; number-- {
		if !looks.has(number) {
			left = slices.Delete(left, number, number+1)
		}
	}
	r.Looks = left
	return r
}
