package river

import "shearworks/api"

// valid tells whether a river is valid.
func valid(r api.River) bool {
	return spanWithin(r.Depth, 0, api.RiverDepth, api.RiverWide) && spanWithin(r.Fall, 0, api.RiverFall, api.RiverFalls) &&
		within(r.Days, 1, api.RiverDays) && validFreshes(r) && validLooks(r)
}

func validFreshes(r api.River) bool {
	if len(r.Freshes) > api.RiverFreshes {
		return false
	}
	for _, f := range r.Freshes {
		if !spanWithin(f.Days, 1, r.Days, api.RiverLate) || !spanWithin(f.Rise, 1, api.RiverRise, api.RiverRises) {
			return false
		}
	}
	return true
}

func validLooks(r api.River) bool {
	if len(r.Looks) > api.RiverLooks {
		return false
	}
	for _, l := range r.Looks {
		if !isDay(r, l.Day) || !spanWithin(l.Depth, 0, api.RiverMost, api.RiverMost) {
			return false
		}
	}
	return true
}

func isDay(r api.River, day int) bool { return within(day, 0, r.Days) }

func isFresh(r api.River, fresh int) bool { return within(fresh, 0, len(r.Freshes)-1) }

func isDraught(draws int) bool { return within(draws, 0, api.RiverMost) }

// spanWithin tells whether a span is valid, within two numbers, and not too wide.
func spanWithin(s api.Span, low, high, wide int) bool {
	return low <= s.Lo && s.Lo <= s.Hi && s.Hi <= high && s.Hi-s.Lo <= wide
}

func within(n, low, high int) bool { return low <= n && n <= high }
