package river

import "math/bits"

// set is a set of days, of freshes, or of looks.
type set int

func (s set) has(number int) bool { return s>>number&1 == 1 }

// hasTo tells whether all numbers to this one are in the set.
func (s set) hasTo(number int) bool { return s.has(number) && ^s&(1<<number-1) == 0 }

func (s set) size() int { return bits.OnesCount(uint(s)) }
