package bean

import "shearworks/api"

// valid tells whether a vote is valid.
func valid(b api.Bean) bool {
	return within(b.Voters, 1, api.BeanVoters) && within(b.Need, 0, b.Voters) &&
		spanWithin(b.Whites, 0, b.Voters) && validGroups(b) && validPairs(b)
}

func validGroups(b api.Bean) bool {
	if len(b.Groups) > api.BeanGroups {
		return false
	}
	for _, g := range b.Groups {
		if !within(g.Voters, 0, 1<<b.Voters-1) || !spanWithin(g.Whites, 0, api.BeanVoters) {
			return false
		}
	}
	return true
}

func validPairs(b api.Bean) bool {
	if len(b.Pairs) > api.BeanPairs {
		return false
	}
	for _, p := range b.Pairs {
		if !isVoter(b, p.A) || !isVoter(b, p.B) || p.A == p.B {
			return false
		}
	}
	return true
}

func isVoter(b api.Bean, voter int) bool {
	return within(voter, 0, b.Voters-1)
}

func within(n, low, high int) bool {
	return low <= n && n <= high
}

func spanWithin(s api.Span, low, high int) bool {
	return low <= s.Lo && s.Lo <= s.Hi && s.Hi <= high
}
