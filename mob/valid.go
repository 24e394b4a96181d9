package mob

import "shearworks/api"

// valid tells whether a way with mobs is valid.
func valid(m api.Mob) bool {
	return validPlaces(m) && validLegs(m) && validHerds(m) && validSeen(m)
}

func validPlaces(m api.Mob) bool {
	if !within(len(m.Places), 2, api.MobPlaces) {
		return false
	}
	for _, p := range m.Places {
		if !within(p.Rest, 0, api.MobRest) {
			return false
		}
	}
	return true
}

func validLegs(m api.Mob) bool {
	if len(m.Legs) != len(m.Places)-1 {
		return false
	}
	for _, leg := range m.Legs {
		if !spanWithin(leg, 1, api.MobLeg, api.MobWide) {
			return false
		}
	}
	return true
}

func validHerds(m api.Mob) bool {
	if len(m.Herds) > api.MobHerds {
		return false
	}
	for _, h := range m.Herds {
		if !within(h.Start, 0, len(m.Places)-2) || !spanWithin(h.Leaves, 0, api.MobDays, api.MobLeaves) || !within(h.Thirst, 0, api.MobThirst) {
			return false
		}
	}
	return true
}

func validSeen(m api.Mob) bool {
	if len(m.Seen) > api.MobSeens {
		return false
	}
	for _, s := range m.Seen {
		if !isMob(m, s.Mob) || !isOnWay(m, s.Mob, s.Place) || !spanWithin(s.Days, 0, lastDay, lastDay) {
			return false
		}
	}
	return true
}

func isMob(m api.Mob, herd int) bool {
	return within(herd, 0, len(m.Herds)-1)
}

// isOnWay tells whether a place is one from the Start of the mob on.
func isOnWay(m api.Mob, herd, place int) bool {
	return within(place, m.Herds[herd].Start, len(m.Places)-1)
}

func isDay(day int) bool {
	return within(day, 0, lastDay)
}

func within(n, low, high int) bool {
	return low <= n && n <= high
}

// spanWithin compares the ends with their bounds first: the difference of numbers beyond them can overflow.
func spanWithin(s api.Span, low, high, wide int) bool {
	return low <= s.Lo && s.Lo <= s.Hi && s.Hi <= high && s.Hi-s.Lo <= wide
}
