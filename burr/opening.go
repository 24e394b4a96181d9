package burr

import (
	"slices"

	"shearworks/api"
)

// left is how many truths are left after a bale was opened: if no burr was found in it, and if one was.
type left [2]int

// most returns how many truths are left at most.
func (l left) most() int { return slices.Max(l[:]) }

// opening is a bale that is opened, and how many truths are left then.
type opening struct {
	bale int
	left left
}

// worse tells whether another opening leaves fewer truths at most.
func (o opening) worse(other opening) bool { return other.left.most() < o.left.most() }

// openings returns the opening of each bale.
func openings(b api.Burr) []opening {
	var all []opening
	for bale := range b.Bales {
		all = append(all, opening{bale: bale, left: left{
			know(testing(b, api.BurrTest{Bale: bale})).count(),
			know(testing(b, api.BurrTest{Bale: bale, Found: true})).count(),
		}})
	}
	return all
}

// testing returns the bales with one test more.
func testing(b api.Burr, t api.BurrTest) api.Burr {
	tests := make([]api.BurrTest, len(b.Tests))
	copy(tests, b.Tests) // behind the end of the list can be what is the caller's
	b.Tests = append(tests, t)
	return b
}

// best returns the first opening to which no other one is better; it panics if there is none at all.
func best(all []opening) opening {
	return first(slices.Values(all), wanted[opening]{
		suits: func(o opening) bool { return !slices.ContainsFunc(all, o.worse) },
		none:  api.ErrNone,
	})
}
