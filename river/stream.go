package river

import "shearworks/api"

// stream is a river that falls by one number each day.
type stream struct {
	ebb     ebb
	depth   api.Span // on the day 0
	last    int      // day
	freshes []api.RiverFresh
	right   [api.RiverDays + 1]api.Span // the depths on each day of which its looks are right
}

func streamOf(r api.River, fall int) stream {
	s := stream{ebb: ebb{fall}, depth: r.Depth, last: r.Days, freshes: r.Freshes}
	for day := range s.right {
		s.right[day] = api.Span{Hi: api.RiverMost}
	}
	for _, l := range r.Looks {
		s.right[l.Day] = common(s.right[l.Day], l.Depth)
	}
	return s
}

// due returns which freshes can come on a day, and which ones must, if some came before it.
func (s stream) due(day int, came set) (may, must set) {
	for number, f := range s.freshes {
		if came.has(number) || !within(day, f.Days.Lo, f.Days.Hi) {
			continue
		}
		may |= 1 << number
		if day == f.Days.Hi {
			must |= 1 << number
		}
	}
	return may, must
}

// events returns all that can befall the river until a day, if some freshes came before it. After the last day nothing does.
func (s stream) events(day int, came set) []event {
	if day > s.last {
		return nil
	}
	var list []event
	may, must := s.due(day, came)
	for come := range may + 1 {
		if come&^may == 0 && must&^come == 0 {
			list = append(list, s.event(come))
		}
	}
	return list
}

func (s stream) event(come set) event {
	if come == 0 {
		return s.ebb
	}
	f := flood{ebb: s.ebb, come: come}
	for number, fresh := range s.freshes {
		if come.has(number) {
			f.rise.Lo += fresh.Rise.Lo
			f.rise.Hi += fresh.Rise.Hi
		}
	}
	return f
}
