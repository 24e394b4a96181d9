package pay

import (
	"slices"

	"shearworks/api"
)

// known is a pay, and the calls that stand.
type known struct {
	pay    api.Pay
	stands map[job]int
}

func know(p api.Pay) known { return known{pay: p, stands: standingCalls(p)} }

// standing returns the call that stands for a job; it panics if there is none.
func (k known) standing(j job) int {
	call, does := k.stands[j]
	if !does {
		panic(api.ErrNone)
	}
	return call
}

// called returns how many sheep each shearer has shorn in a run by the calls that stand.
func (k known) called(run int) []sheep {
	list := make([]sheep, k.pay.People)
	for who := range list {
		if call, does := k.stands[job{who, run}]; does {
			list[who] = sheep{k.pay.Calls[call].Sheep}
		}
	}
	return list
}

// counted returns how many sheep were counted out in a run.
func (k known) counted(run int) sheep { return sheep{k.pay.Runs[run]} }

// out returns how many sheep all have shorn in a run; that is impossible if it was counted wrongly.
func (k known) out(run int) sheep {
	return k.counted(run).common(together(k.called(run)...))
}

// outs returns how many sheep all have shorn, run by run.
func (k known) outs() []sheep {
	list := make([]sheep, len(k.pay.Runs))
	for run := range list {
		list[run] = k.out(run)
	}
	return list
}

// sure returns what is known; it panics if there is no truth.
func (k known) sure() known {
	if slices.ContainsFunc(k.outs(), sheep.impossible) {
		panic(api.ErrClash)
	}
	return k
}

// wrong returns the set of the runs that were counted wrongly; it panics if there is none.
func (k known) wrong() int {
	runs := 0
	for run, out := range k.outs() {
		if out.impossible() {
			runs |= 1 << run
		}
	}
	if runs == 0 {
		panic(api.ErrNone)
	}
	return runs
}

// shorn returns how many sheep each shearer has shorn in a run.
func (k known) shorn(run int) []sheep {
	called, leftBy := k.called(run), k.counted(run).less
	list := make([]sheep, len(called))
	for who, own := range called {
		others := slices.Concat(called[:who], called[who+1:])
		list[who] = own.common(leftBy(together(others...)))
	}
	return list
}

// wage returns what a job brings.
func (k known) wage(j job) api.Span {
	return k.shorn(j.run)[j.who].wage(k.pay.Rate)
}

// wages returns what a shearer has earned in all runs. The runs do not depend on each other: the least wages of all come together.
func (k known) wages(who int) (all api.Span) {
	for run := range k.pay.Runs {
		wage := k.wage(job{who, run})
		all.Lo += wage.Lo
		all.Hi += wage.Hi
	}
	return all
}

// share returns what a shearer owes the cook.
func (k known) share(who int) int {
	return messOf(k.pay).shares()[who]
}

// left returns what is left of a shearer's wages; any payment counts, also one that must not be.
func (k known) left(who int) api.Span {
	gone := k.share(who)
	for _, p := range k.pay.Paid {
		if p.Who == who {
			gone += p.Pence
		}
	}
	wages := k.wages(who)
	return api.Span{Lo: wages.Lo - gone, Hi: wages.Hi - gone}
}
