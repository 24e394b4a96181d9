package classer

import (
	"iter"

	"shearworks/api"
)

// step is what leads from a bale to the next one. It leads back in the same way, so that bales can be gone through from either end.
type step interface {
	// next yields how many fleeces of the next bale can be wrong if so many of a bale are.
	next(wrong int) iter.Seq[int]
}

// drifting leads to each number that differs by so much at most.
type drifting struct{ most int }

func (d drifting) next(wrong int) iter.Seq[int] { return d.upTo(wrong, api.ClassFleeces) }

// upTo yields the numbers that are not greater than another one.
func (d drifting) upTo(wrong, top int) iter.Seq[int] {
	return fromTo(max(0, wrong-d.most), min(wrong+d.most, top))
}

// keeping leads only to bales that keep the line.
type keeping struct {
	drifting
	may int
}

func (k keeping) next(wrong int) iter.Seq[int] { return k.upTo(wrong, k.may) }
