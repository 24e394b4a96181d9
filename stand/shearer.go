package stand

import (
	"iter"

	"shearworks/api"
)

// takes is how many minutes a sheep of each kind takes.
type takes [api.StandKinds]int

// of returns how many minutes a sheep of a kind takes.
func (t takes) of(kind int) int { return t[kind] }

// ends returns when a sheep of a kind is done that is begun at a minute.
func (t takes) ends(kind, begun int) int { return begun + t.of(kind) }

// with returns the same, but for one kind.
func (t takes) with(kind, minutes int) takes {
	t[kind] = minutes
	return t
}

// shearer is one that there can be.
type shearer struct{ takes takes }

// shearers yields all that there can be if kinds take so long.
func shearers(minutes [api.StandKinds]api.Span) iter.Seq[shearer] {
	return func(yield func(shearer) bool) {
		var choose func(kind int, t takes) bool
		choose = func(kind int, t takes) bool {
			if kind == api.StandKinds {
				return yield(shearer{takes: t})
			}
			for n := minutes[kind].Lo; n <= minutes[kind].Hi; n++ {
				if !choose(kind+1, t.with(kind, n)) {
					return false
				}
			}
			return true
		}
		choose(0, takes{})
	}
}
