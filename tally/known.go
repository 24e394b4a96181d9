package tally

import (
	"slices"

	"shearworks/api"
)

// told is what is known with some calls, if there is a truth then.
type told struct {
	differ differences
	can    bool
}

// sure returns what is known; it panics if there is no truth.
func (t told) sure() differences {
	if !t.can {
		panic(api.ErrClash)
	}
	return t.differ
}

// known is what is known with each set of calls that was looked at, as the fewest are looked for among many.
type known struct {
	tally api.Tally
	with  map[chosen]told
}

func know(t api.Tally) known {
	return known{tally: t, with: map[chosen]told{}}
}

// supposing returns what is known with one call more.
func (k known) supposing(call api.TallyCall) known {
	t := k.tally
	t.Calls = make([]api.TallyCall, len(k.tally.Calls))
	copy(t.Calls, k.tally.Calls) // the list is the caller's, and what is behind it too
	t.Calls = append(t.Calls, call)
	return know(t)
}

// all returns the set of all calls.
func (k known) all() chosen { return chosen{calls: 1<<len(k.tally.Calls) - 1} }

// look returns what is known with a set of calls.
func (k known) look(right chosen) told {
	if seen, is := k.with[right]; is {
		return seen
	}
	now := told{differ: unknown(), can: true}
putting:
	for both := range bounds(k.tally, right) {
		switch {
		case slices.ContainsFunc(both, now.differ.excludes):
			now = told{}
			break putting
		case slices.ContainsFunc(both, now.differ.misses):
			now.differ = now.differ.put(both...)
		}
	}
	k.with[right] = now
	return now
}

// fits tells whether a call is right; it panics if there is no truth.
func (k known) fits(call api.TallyCall) int {
	missing := slices.ContainsFunc(called(k.tally, call), k.look(k.all()).sure().misses)
	supposed := k.supposing(call)
	return howSure(!missing, supposed.look(supposed.all()).can)
}

// possible tells whether there is a truth without a set of calls.
func (k known) possible(left chosen) bool {
	return k.look(k.all().without(left)).can
}

// fewestFalse returns the first of the smallest sets without which there is a truth; it panics if there is none without any call.
func (k known) fewestFalse() chosen {
	return first(setsBySize(len(k.tally.Calls)), wanted[chosen]{
		suits: k.possible,
		none:  api.ErrClash,
	})
}

// suspects returns the calls of all of the smallest sets without which there is a truth; it panics if there is none without any call.
func (k known) suspects() int {
	least, calls := k.fewestFalse(), 0
	for left := range setsBySize(len(k.tally.Calls)) {
		if left.many() == least.many() && k.possible(left) {
			calls |= left.calls
		}
	}
	return calls
}

// clashing returns the first of the smallest sets with which alone there is no truth; it panics if there is none.
func (k known) clashing() int {
	return first(setsBySize(len(k.tally.Calls)), wanted[chosen]{
		suits: func(right chosen) bool { return !k.look(right).can },
		none:  api.ErrNone,
	}).calls
}
