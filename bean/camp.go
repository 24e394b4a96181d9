package bean

import (
	"slices"

	"shearworks/api"
)

// camp is voters who all gave the same bean, and voters who all gave the other one.
type camp struct{ with, against int }

func (c camp) turned() camp { return camp{with: c.against, against: c.with} }

// gave returns who gave which bean if those with the camp gave this one.
func (c camp) gave(bean colour) sets {
	var s sets
	s[bean], s[bean.other()] = c.with, c.against
	return s
}

// torn tells whether somebody would have to have given both beans.
func (c camp) torn() bool { return c.with&c.against != 0 }

// meets tells whether some voters are of both camps.
func (c camp) meets(d camp) bool {
	return (c.with|c.against)&(d.with|d.against) != 0
}

// camps are all voters; each of them is of one camp.
type camps []camp

// strangers returns so many voters of whom nothing is known together.
func strangers(voters int) camps {
	var all camps
	for voter := range voters {
		all = append(all, camp{with: 1 << voter})
	}
	return all
}

// sides yields each camp as it is, and turned.
func (l camps) sides(yield func(camp) bool) {
	for _, c := range l {
		if !yield(c) || !yield(c.turned()) {
			return
		}
	}
}

// of returns the camp of a voter, turned so that the voter is with it.
func (l camps) of(voter int) camp {
	return first(l.sides, wanted[camp]{
		suits: func(c camp) bool { return has(c.with, voter) },
		none:  api.ErrNone,
	})
}

// join returns the camps if two voters gave the same beans, or did not.
func (l camps) join(one, other int, same bool) camps {
	a, b := l.of(one), l.of(other)
	if !same {
		b = b.turned()
	}
	joined := camp{with: a.with | b.with, against: a.against | b.against}
	rest := slices.DeleteFunc(slices.Clone(l), joined.meets)
	return append(rest, joined)
}

// canBe tells whether each voter gave one bean.
func (l camps) canBe() bool { return !slices.ContainsFunc(l, camp.torn) }
