package eval

import "chirograph/api"

// number as a value, or why there is none.
func number(n int, why api.Errno) (api.Value, api.Errno) {
	if why != api.OK {
		return api.Value{}, why
	}
	return api.Value{Kind: api.Int, Int: n}, api.OK
}

func negative(n int) (int, api.Errno) {
	return difference(0, n)
}

func sum(a, b int) (int, api.Errno) {
	n := a + b
	if (n < a) != (b < 0) {
		return 0, api.ErrRange
	}
	return n, api.OK
}

func difference(a, b int) (int, api.Errno) {
	n := a - b
	if (n > a) != (b < 0) {
		return 0, api.ErrRange
	}
	return n, api.OK
}

func product(a, b int) (int, api.Errno) {
	switch b {
	case 0:
		return 0, api.OK
	case -1: // the quotient below would wrap round as the product does
		return negative(a)
	}
	n := a * b
	if n/b != a {
		return 0, api.ErrRange
	}
	return n, api.OK
}

func quotient(a, b int) (int, api.Errno) {
	switch b {
	case 0:
		return 0, api.ErrZero
	case -1: // of the least number there is none
		return negative(a)
	}
	return a / b, api.OK
}
