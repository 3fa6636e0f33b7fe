package query

import (
	"math/bits"

	"chirograph/api"
)

// wide number of 128 bits, in which the sums of some may stand that 64 bits have no room for.
type wide struct {
	high int
	low  uint64
}

func (w wide) plus(n int) wide {
	low, carry := bits.Add64(w.low, uint64(n), 0)
	return wide{w.high + sign(n) + int(carry), low}
}

// sign of a number, as all bits above its own: -1, if it is below 0, else 0.
func sign(n int) int { return n >> 63 }

// narrow: the same number in 64 bits, if there is one.
func (w wide) narrow() (n int, ok bool) {
	n = int(w.low)
	return n, w.high == sign(n)
}

// sumOf numbers.
func sumOf(l []api.Value) (api.Value, api.Errno) {
	var sum wide
	for _, v := range l {
		sum = sum.plus(v.Int)
	}
	n, ok := sum.narrow()
	if !ok {
		return api.Value{}, api.ErrRange
	}
	return number(n), api.OK
}
