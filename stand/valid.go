package stand

import (
	"slices"

	"shearworks/api"
)

// valid tells whether a stand is valid.
func valid(s api.Stand) bool {
	return validMinutes(s) && validRuns(s) && validSheep(s) && validLooks(s)
}

func validMinutes(s api.Stand) bool {
	for _, m := range s.Minutes {
		if !spanWithin(m, 1, api.StandMinutes) || m.Hi-m.Lo > api.StandWide {
			return false
		}
	}
	return true
}

func validRuns(s api.Stand) bool {
	if !within(len(s.Runs), 1, api.StandRuns) {
		return false
	}
	before := 0 // the bell of the run before
	for _, r := range s.Runs {
		if r.Start < before || r.Bell <= r.Start || r.Bell > api.StandDay {
			return false
		}
		before = r.Bell
	}
	return true
}

func validSheep(s api.Stand) bool {
	isOther := func(kind int) bool { return !isKind(kind) }
	return len(s.Sheep) <= api.StandSheep && !slices.ContainsFunc(s.Sheep, isOther)
}

func validLooks(s api.Stand) bool {
	if len(s.Looks) > api.StandLooks {
		return false
	}
	for _, l := range s.Looks {
		if !within(l.Minute, 0, api.StandDay) || !spanWithin(l.Done, 0, api.StandSheep) {
			return false
		}
	}
	return true
}

func isKind(kind int) bool {
	return within(kind, 0, api.StandKinds-1)
}

func isRun(s api.Stand, run int) bool {
	return within(run, 0, len(s.Runs)-1)
}

func within(n, low, high int) bool {
	return low <= n && n <= high
}

// spanWithin tells whether a span is valid, and contains nothing beyond the bounds.
func spanWithin(s api.Span, low, high int) bool {
	return low <= s.Lo && s.Lo <= s.Hi && s.Hi <= high
}
