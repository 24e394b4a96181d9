package classer

import "shearworks/api"

// valid tells whether a line is valid.
func valid(c api.Classer) bool {
	return validBales(c.Bales) && within(c.May, 0, api.ClassFleeces) && within(c.Drift, 0, api.ClassFleeces) && within(c.Mistakes, 0, api.ClassMistakes)
}

func validBales(bales []api.ClassBale) bool {
	if !within(len(bales), 1, api.ClassBales) {
		return false
	}
	for _, b := range bales {
		if !within(b.Fleeces, 1, api.ClassFleeces) || !within(b.Looked, 0, b.Fleeces) || !within(b.Wrong, 0, b.Looked) {
			return false
		}
	}
	return true
}

func isBale(c api.Classer, bale int) bool {
	return within(bale, 0, len(c.Bales)-1)
}

func within(n, low, high int) bool {
	return low <= n && n <= high
}
