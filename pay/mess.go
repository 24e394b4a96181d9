package pay

import "shearworks/api"

// eater is a shearer, and on how many days that one has eaten.
type eater struct{ who, days int }

// mess is the cook's bill, those who share it, in their order, and the days of all together.
type mess struct {
	bill   int
	eaters []eater
	days   int
}

func messOf(p api.Pay) mess {
	m := mess{bill: p.Bill}
	for who, days := range p.Days {
		m.eaters = append(m.eaters, eater{who, days})
		m.days += days
	}
	return m
}

// shares returns what each shearer pays.
func (m mess) shares() []int {
	shares := make([]int, len(m.eaters))
	if m.days == 0 {
		return shares
	}
	left := m.bill
	for who, e := range m.eaters {
		shares[who] = m.bill * e.days / m.days
		left -= shares[who]
	}
	rest := measure[eater]{of: func(e eater) int { return m.bill * e.days % m.days }}
	// The pence that are left are what the rests add up to, each less than a penny: they are fewer than the shearers.
	for _, e := range greatestFirst(m.eaters, rest)[:left] {
		shares[e.who]++
	}
	return shares
}
