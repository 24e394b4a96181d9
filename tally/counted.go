package tally

import "shearworks/api"

// row is what is summed up, from the first shearer on.
type row int

const (
	shorn row = iota
	penned
	rows
)

// places is how many places there are before, between and behind shearers.
const places = api.TallyShearers + 1

// sum is how many sheep of a row there are before a place. What is counted differs by one sum from another one, and so do strays: a tally is all about differences.
type sum int

// sums is how many there are.
const sums = int(rows) * places

func sumOf(r row, place int) sum { return sum(int(r)*places + place) }

// counted is what can be counted, from one place to another one.
type counted interface {
	row() row
	from() int
	to() int
}

// shearers are those from one to another one; counted is what they have shorn together.
type shearers struct{ first, last int }

func (s shearers) row() row { return shorn }

func (s shearers) from() int { return s.first }

func (s shearers) to() int { return s.last + 1 }

// pens are those of shearers; counted is what there is in them together.
type pens struct{ shearers }

func (p pens) row() row { return penned }

// only returns one shearer.
func only(shearer int) shearers { return shearers{first: shearer, last: shearer} }

// everyone returns all shearers of a tally.
func everyone(t api.Tally) shearers { return shearers{first: 0, last: t.Shearers - 1} }

// countedBy returns what a call counts.
func countedBy(t api.Tally, call api.TallyCall) counted {
	switch call.Kind {
	case api.TallyPort:
		return only(call.At)
	case api.TallyPen:
		return pens{only(call.At)}
	}
	return everyone(t)
}
