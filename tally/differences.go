package tally

import "shearworks/api"

// differences is by how much sums differ: [from][to] is by how much the sum to is greater than the sum from at most. What follows from bounds that are put is seen to at once: going by way of a third sum never says more.
type differences [sums][sums]int

// unknown returns the differences of which nothing is known. No sum is below 0, or more than all can have shorn, as in no pen there are fewer than 0.
func unknown() differences {
	var d differences
	for from := range d {
		for to := range d[from] {
			if from != to {
				d[from][to] = api.TallyShearers * api.TallyMost
			}
		}
	}
	return d
}

// between returns by how much one sum is greater than another one.
func (d differences) between(from, to sum) api.Span {
	return api.Span{Lo: -d[to][from], Hi: d[from][to]}
}

// count returns how many sheep there are of what is counted.
func (d differences) count(c counted) api.Span {
	return d.between(sumOf(c.row(), c.from()), sumOf(c.row(), c.to()))
}

// strays returns how many sheep went from pens to the one behind them: so many more were shorn up to there than there are in pens.
func (d differences) strays(p pens) api.Span {
	return d.between(sumOf(penned, p.to()), sumOf(shorn, p.to()))
}

// excludes tells whether a bound cannot be.
func (d differences) excludes(b bound) bool { return d[b.to][b.from]+b.most < 0 }

// misses tells whether a bound says more than is known.
func (d differences) misses(b bound) bool { return b.most < d[b.from][b.to] }

// put returns the differences with bounds that can be.
func (d differences) put(bounds ...bound) differences {
	for _, b := range bounds {
		// What is read here of b.from and b.to is not changed here, as no way from a sum to itself is below 0.
		for from := range d {
			for to := range d[from] {
				d[from][to] = min(d[from][to], d[from][b.from]+b.most+d[b.to][to])
			}
		}
	}
	return d
}
