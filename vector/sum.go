package vector

import (
	"cmp"
	"math/bits"
)

// sum is a sum of values in two words, because the values of a few devices may
// be more than one word has.
type sum struct {
	high, low uint64
}

// plus returns the sum with one more value.
func (s sum) plus(value uint64) sum {
	low, carry := bits.Add64(s.low, value, 0)
	return sum{high: s.high + carry, low: low}
}

// compare returns -1, 0 or 1: s is less than the other one, equal, or greater.
func (s sum) compare(other sum) int {
	if c := cmp.Compare(s.high, other.high); c != 0 {
		return c
	}
	return cmp.Compare(s.low, other.low)
}
