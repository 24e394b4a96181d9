package burr

import "shearworks/api"

// valid tells whether bales are valid.
func valid(b api.Burr) bool {
	return within(b.Mobs, 1, api.BurrMobs) && validBurred(b) &&
		validBales(b) && isSet(b.Top, len(b.Bales)) && validTests(b)
}

func validBurred(b api.Burr) bool {
	return 0 <= b.Burred.Lo && b.Burred.Lo <= b.Burred.Hi && b.Burred.Hi <= b.Mobs
}

func validBales(b api.Burr) bool {
	if len(b.Bales) > api.BurrBales {
		return false
	}
	for _, bale := range b.Bales {
		if !isSet(bale.Perhaps, b.Mobs) || bale.Surely&^bale.Perhaps != 0 { // what is in a set of mobs is one, too
			return false
		}
	}
	return true
}

func validTests(b api.Burr) bool {
	if len(b.Tests) > api.BurrTests {
		return false
	}
	for _, t := range b.Tests {
		if !within(t.Bale, 0, len(b.Bales)-1) {
			return false
		}
	}
	return true
}

// isSet tells whether a number is a set of some of so many.
func isSet(set, many int) bool {
	return within(set, 0, 1<<many-1)
}

func within(n, low, high int) bool {
	return low <= n && n <= high
}
