package pay

import (
	"slices"

	"shearworks/api"
)

// rule is what a payment can break.
type rule interface {
	number() int
	brokenBy(payment int) bool
}

// once is the rule that a job is paid once.
type once struct{ known }

func (o once) number() int { return api.PayTwice }

func (o once) brokenBy(payment int) bool {
	j := jobPaid(o.pay.Paid[payment])
	return slices.ContainsFunc(o.pay.Paid[:payment], func(p api.PayPaid) bool { return jobPaid(p) == j })
}

// tallied is the rule that a job is paid by a call that stands.
type tallied struct{ known }

func (t tallied) number() int { return api.PayNone }

func (t tallied) brokenBy(payment int) bool {
	_, does := t.stands[jobPaid(t.pay.Paid[payment])]
	return !does
}

// earned is the rule that no more is paid for a job than the wage can be.
type earned struct{ known }

func (e earned) number() int { return api.PayMuch }

func (e earned) brokenBy(payment int) bool {
	p := e.pay.Paid[payment]
	return p.Pence > e.wage(jobPaid(p)).Hi
}

// breach is that a payment breaks a rule.
type breach struct{ payment, rule int }

// breach returns the first payment that breaks a rule, and the first rule that it breaks; it panics if none does.
func (k known) breach() breach {
	rules := [...]rule{once{k}, tallied{k}, earned{k}}
	for payment := range k.pay.Paid {
		for _, r := range rules {
			if r.brokenBy(payment) {
				return breach{payment, r.number()}
			}
		}
	}
	panic(api.ErrNone)
}
