package mob

import "shearworks/api"

// place is what a mob finds at a place of its way: when it goes on from there, if it came on a day, and whether it drinks.
type place interface {
	goesOn(came int) int
	drinks() bool
}

// bare is a place from which mobs go on at once.
type bare struct{ water bool }

func (b bare) goesOn(came int) int { return came }

func (b bare) drinks() bool { return b.water }

// watered is a place at which mobs rest, and drink.
type watered struct {
	bare
	rest int
}

func (w watered) goesOn(came int) int { return w.bare.goesOn(came) + w.rest }

// placesFrom returns what a mob finds that starts at a place. At its Start it has drunk, and does not rest; at the shed it drinks, and does not go on.
func placesFrom(m api.Mob, start int) []place {
	places := make([]place, len(m.Places))
	for number, p := range m.Places {
		switch {
		case number == start || number == len(m.Places)-1:
			places[number] = bare{water: true}
		case p.Water:
			places[number] = watered{bare: bare{water: true}, rest: p.Rest}
		default:
			places[number] = bare{}
		}
	}
	return places
}

// drove is a mob, and, once it is known how long all legs take, how it goes then: its Leaves are the days on which it can leave.
type drove struct {
	api.MobHerd
	places []place
	seen   []api.MobSeen
	legs   legs
}

// drovesOf returns all mobs, while it is not known how long legs take.
func drovesOf(m api.Mob) []drove {
	var list []drove
	for number, h := range m.Herds {
		d := drove{MobHerd: h, places: placesFrom(m, h.Start)}
		for _, s := range m.Seen {
			if s.Mob == number {
				d.seen = append(d.seen, s)
			}
		}
		list = append(list, d)
	}
	return list
}

// with returns the mob if all legs take so long. Each thing seen allows a span of days, so those on which it can leave are one too.
func (d drove) with(l legs) drove {
	d.legs = l
	for _, s := range d.seen {
		d.Leaves = common(d.Leaves, later(s.Days, -d.daysTo(s.Place)))
	}
	return d
}

func (d drove) canLeave() bool { return d.Leaves.Lo <= d.Leaves.Hi }

// arrivals yields each place from the Start on, and how many days after it left the mob comes there.
func (d drove) arrivals(yield func(place, days int) bool) {
	days := 0
	for number, p := range d.places[d.Start:] {
		if !yield(d.Start+number, days) || d.Start+number == len(d.places)-1 {
			return
		}
		days = p.goesOn(days) + d.legs.days[d.Start+number]
	}
}

// daysTo returns how many days after it left the mob comes to a place.
func (d drove) daysTo(place int) int {
	for at, days := range d.arrivals {
		if at == place {
			return days
		}
	}
	return 0
}

// placeAfter returns the last place to which the mob came in so many days after it left; before that it is at its Start.
func (d drove) placeAfter(days int) int {
	last := d.Start
	for place, came := range d.arrivals {
		if came > days {
			break
		}
		last = place
	}
	return last
}

// comes returns on which days the mob can come to a place.
func (d drove) comes(place int) api.Span {
	return later(d.Leaves, d.daysTo(place))
}

// where returns the set of the places that can be that of the mob on a day.
func (d drove) where(day int) int {
	set := 0
	for left := d.Leaves.Lo; left <= d.Leaves.Hi; left++ {
		set |= 1 << d.placeAfter(day-left)
	}
	return set
}

// stretch returns how long the mob goes without water at most: with these legs there is one such number.
func (d drove) stretch() api.Span {
	longest, drank := 0, 0
	for place, days := range d.arrivals {
		if d.places[place].drinks() {
			longest = max(longest, days-drank)
			drank = d.places[place].goesOn(days)
		}
	}
	return api.Span{Lo: longest, Hi: longest}
}

// pair is two mobs, with legs that take as long for both.
type pair struct{ one, other drove }

// gap returns by how many days the one comes to the shed later than the other one: with these legs each leaves on any of its days, whenever the other one does.
func (p pair) gap() api.Span {
	shed := len(p.one.places) - 1
	one, other := p.one.comes(shed), p.other.comes(shed)
	return api.Span{Lo: one.Lo - other.Hi, Hi: one.Hi - other.Lo}
}
