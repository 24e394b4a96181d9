// Package mob is layer 1: see shared/doc/01-mob.md.
package mob

import "shearworks/api"

// lastDay is the last day that can be asked about, and on which a mob can have been seen.
const lastDay = 100

// Comes returns when a mob comes to a place.
func Comes(m api.Mob, herd, place int) (api.Span, api.Errno) {
	if !valid(m) {
		return api.Span{}, api.ErrArg
	}
	if !isMob(m, herd) || !isOnWay(m, herd, place) {
		return api.Span{}, api.ErrRange
	}
	return told(func() api.Span {
		return know(m).comes(herd, place)
	})
}

// Where returns where a mob is on a day.
func Where(m api.Mob, herd, day int) (places int, e api.Errno) {
	if !valid(m) {
		return 0, api.ErrArg
	}
	if !isMob(m, herd) || !isDay(day) {
		return 0, api.ErrRange
	}
	return told(func() int {
		set := 0
		for d := range know(m).droves(herd) {
			set |= d.where(day)
		}
		return set
	})
}

// Stretch returns for how long a mob goes without water.
func Stretch(m api.Mob, herd int) (api.Span, api.Errno) {
	if !valid(m) {
		return api.Span{}, api.ErrArg
	}
	if !isMob(m, herd) {
		return api.Span{}, api.ErrRange
	}
	return told(func() api.Span {
		return over(know(m).droves(herd), question[drove]{span: drove.stretch})
	})
}

// Safe returns whether a mob can go without water for so long.
func Safe(m api.Mob, herd int) (int, api.Errno) {
	stretch, e := Stretch(m, herd)
	if e != api.OK {
		return 0, e
	}
	thirst := m.Herds[herd].Thirst
	return howSure(stretch.Hi <= thirst, stretch.Lo <= thirst), api.OK
}

// Ahead returns whether a mob comes before another one.
func Ahead(m api.Mob, herd, other int) (int, api.Errno) {
	if !valid(m) {
		return 0, api.ErrArg
	}
	if !isMob(m, herd) || !isMob(m, other) {
		return 0, api.ErrRange
	}
	return told(func() int {
		k := know(m)
		if herd == other { // a gap would take it to leave on two days
			return api.MobNever
		}
		gap := over(k.pairs(herd, other), question[pair]{span: pair.gap})
		return howSure(gap.Hi < 0, gap.Lo < 0)
	})
}

// There returns which mobs are at the shed.
func There(m api.Mob, day int) (surely, perhaps int, e api.Errno) {
	if !valid(m) {
		return 0, 0, api.ErrArg
	}
	if !isDay(day) {
		return 0, 0, api.ErrRange
	}
	sets, e := told(func() [2]int {
		return know(m).there(day)
	})
	return sets[0], sets[1], e
}

// Clash returns what cannot all be right that was seen.
func Clash(m api.Mob) (seen int, e api.Errno) {
	if !valid(m) {
		return 0, api.ErrArg
	}
	if possible(m) {
		return 0, api.ErrNone
	}
	return fewest(m), api.OK
}

// told returns what is found, or ErrClash if that panics because there is no truth.
func told[T any](find func() T) (answer T, e api.Errno) {
	defer func() {
		if recover() != nil { // of a valid way nothing else panics
			e = api.ErrClash
		}
	}()
	return find(), api.OK
}

// howSure returns whether something is so in each truth, in some, or in none.
func howSure(always, ever bool) int {
	switch {
	case always:
		return api.MobAlways
	case ever:
		return api.MobPerhaps
	}
	return api.MobNever
}
