package stand

import "shearworks/api"

// shorn is a sheep that is shorn: in which run it is begun, and at which minute it is done.
type shorn struct{ run, done int }

// day is all sheep that a shearer shears, in order; those behind them are not shorn.
type day []shorn

// shear returns the day of a shearer, if it is known when a sheep of a kind ends that is begun at a minute.
func shear(s api.Stand, ends func(kind, begun int) int) day {
	var d day
	run, free := 0, 0
	for _, kind := range s.Sheep {
		for run < len(s.Runs) && free >= s.Runs[run].Bell {
			run++
		}
		if run == len(s.Runs) {
			break
		}
		free = ends(kind, max(free, s.Runs[run].Start))
		d = append(d, shorn{run: run, done: free})
	}
	return d
}

// agrees tells whether a look is right.
func (d day) agrees(l api.StandLook) bool {
	return within(d.measured(doneBy{minute: l.Minute}), l.Done.Lo, l.Done.Hi)
}

// measured returns how much the day has of what is measured.
func (d day) measured(m measure) int { return m.in(d) }

// measure is what can be measured of a day.
type measure interface {
	in(d day) int
}

// doneAt is at which minute a sheep is done.
type doneAt struct{ sheep int }

func (m doneAt) in(d day) int {
	if m.sheep < len(d) {
		return d[m.sheep].done
	}
	return api.StandNone
}

// doneBy is how many sheep are done at a minute.
type doneBy struct{ minute int }

func (m doneBy) in(d day) int {
	many := 0
	for _, sheep := range d {
		if sheep.done <= m.minute {
			many++
		}
	}
	return many
}

// begun is how many sheep are begun in the runs from one to another one.
type begun struct{ first, last int }

func (m begun) in(d day) int { return len(m.sheep(d)) }

// sheep returns those that are begun in these runs.
func (m begun) sheep(d day) []shorn {
	var list []shorn
	for _, sheep := range d {
		if within(sheep.run, m.first, m.last) {
			list = append(list, sheep)
		}
	}
	return list
}

// past is how many minutes after another one the last sheep that is begun in these runs is done.
type past struct {
	begun
	minute int
}

func (m past) in(d day) int {
	minutes := 0
	for _, sheep := range m.sheep(d) {
		minutes = max(minutes, sheep.done-m.minute)
	}
	return minutes
}
