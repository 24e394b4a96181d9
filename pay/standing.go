package pay

import (
	"iter"

	"shearworks/api"
)

// job is what is called and paid: a shearer's run.
type job struct{ who, run int }

func jobCalled(c api.PayCall) job { return job{c.Who, c.Run} }

func jobPaid(p api.PayPaid) job { return job{p.Who, p.Run} }

// lastFirst yields each call with its number, the last one first.
func lastFirst(calls []api.PayCall) iter.Seq2[int, api.PayCall] {
	return func(yield func(int, api.PayCall) bool) {
		for number := len(calls) - 1; number >= 0; number-- {
			if !yield(number, calls[number]) {
				return
			}
		}
	}
}

// standingCalls returns which call stands for each job; none does for one that is missing.
func standingCalls(p api.Pay) map[job]int {
	stands, jobs := map[job]int{}, p.People*len(p.Runs)
calls:
	for number, c := range lastFirst(p.Calls) {
		called := jobCalled(c)
		_, again := stands[called]
		switch {
		case len(stands) == jobs:
			break calls // those before were all called again
		case !c.Struck && !again:
			stands[called] = number
		}
	}
	return stands
}
