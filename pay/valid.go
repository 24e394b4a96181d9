package pay

import "shearworks/api"

// valid tells whether a pay is valid.
func valid(p api.Pay) bool {
	return within(p.People, 1, api.PayPeople) && validRuns(p) && validCalls(p) &&
		within(p.Rate, 0, api.PayRate) && within(p.Bill, 0, api.PayBill) && validDays(p) && validPaid(p)
}

func validRuns(p api.Pay) bool {
	if !within(len(p.Runs), 1, api.PayRuns) {
		return false
	}
	for _, out := range p.Runs {
		if !spanWithin(out, 0, api.PayOut) {
			return false
		}
	}
	return true
}

func validCalls(p api.Pay) bool {
	if len(p.Calls) > api.PayCalls {
		return false
	}
	for _, c := range p.Calls {
		if !isShearer(p, c.Who) || !isRun(p, c.Run) || !spanWithin(c.Sheep, 0, api.PaySheep) {
			return false
		}
	}
	return true
}

func validDays(p api.Pay) bool {
	if len(p.Days) != p.People {
		return false
	}
	for _, days := range p.Days {
		if !within(days, 0, api.PayDays) {
			return false
		}
	}
	return true
}

func validPaid(p api.Pay) bool {
	if len(p.Paid) > api.PayPays {
		return false
	}
	for _, paid := range p.Paid {
		if !isShearer(p, paid.Who) || !isRun(p, paid.Run) || !within(paid.Pence, 0, api.PayPence) {
			return false
		}
	}
	return true
}

func isShearer(p api.Pay, who int) bool { return within(who, 0, p.People-1) }

func isRun(p api.Pay, run int) bool { return within(run, 0, len(p.Runs)-1) }

// spanWithin tells whether a span is valid, and within two numbers.
func spanWithin(s api.Span, low, high int) bool {
	return low <= s.Lo && s.Lo <= s.Hi && s.Hi <= high
}

func within(n, low, high int) bool { return low <= n && n <= high }
