package classer

import "shearworks/api"

// totals is how many fleeces of bales can be wrong together, by how many of the last one are, and by how many looks were mistaken. Both have to be told apart: more mistakes here leave fewer behind.
type totals [api.ClassFleeces + 1][api.ClassMistakes + 1]api.Span

// noTotals returns totals of what cannot be.
func noTotals() totals {
	var t totals
	for wrong := range t {
		for mistakes := range t[wrong] {
			t[wrong][mistakes] = nothing()
		}
	}
	return t
}

// noBales returns the totals before the first bale, which can have any number.
func noBales() totals {
	t := noTotals()
	for wrong := range t {
		t[wrong][0] = exactly(0)
	}
	return t
}

// leading returns the totals by the numbers of the next bale, without its fleeces.
func (t totals) leading(s step) totals {
	all := noTotals()
	for wrong, by := range t {
		for next := range s.next(wrong) {
			for mistakes, total := range by {
				all[next][mistakes] = joined(all[next][mistakes], total)
			}
		}
	}
	return all
}

// with returns the totals with the fleeces of the last bale, whose numbers cost so much.
func (t totals) with(own costs) totals {
	all := noTotals()
	for wrong, by := range t {
		for mistakes, total := range by {
			if now := mistakes + own[wrong]; now < len(by) {
				all[wrong][now] = api.Span{Lo: total.Lo + wrong, Hi: total.Hi + wrong}
			}
		}
	}
	return all
}

// span returns all totals with so many mistakes at most.
func (t totals) span(mistakes int) api.Span {
	s := nothing()
	for _, by := range t {
		for _, total := range by[:mistakes+1] {
			s = joined(s, total)
		}
	}
	return s
}

// all returns how many fleeces of all bales can be wrong, if there is a truth.
func (k known) all() api.Span {
	t := noBales()
	for bale := range k.line.Bales {
		t = t.leading(k.step).with(k.own(bale, k.every()))
	}
	return t.span(k.line.Mistakes)
}
