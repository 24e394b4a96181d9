package bean

import (
	"math/bits"

	"shearworks/api"
)

// fact is one thing that is known.
type fact interface {
	// join returns the camps of voters as they are if it is right.
	join(all camps) camps
	// among returns how many of its voters are in a set.
	among(voters int) int
	// right tells whether it can be right if so many of its voters gave a white bean.
	right(whites int) bool
}

type group struct {
	voters int
	whites api.Span
}

func (g group) join(all camps) camps { return all }

func (g group) among(voters int) int { return bits.OnesCount(uint(g.voters & voters)) }

func (g group) right(whites int) bool { return within(whites, g.whites.Lo, g.whites.Hi) }

// lowest returns the voter with the least number.
func (g group) lowest() int { return bits.TrailingZeros(uint(g.voters)) }

// highest returns the voter with the greatest number.
func (g group) highest() int { return bits.Len(uint(g.voters)) - 1 }

// pair is a group of two, any number of whom can have given a white bean: whether they gave the same is seen to when they are joined.
type pair struct {
	group
	same bool
}

// pairOf returns a pair of two voters, who can be the same one.
func pairOf(one, other int, same bool) pair {
	both := group{voters: 1<<one | 1<<other, whites: api.Span{Lo: 0, Hi: 2}}
	return pair{group: both, same: same}
}

func (p pair) join(all camps) camps { return all.join(p.lowest(), p.highest(), p.same) }
