package poly

import (
	"factor/api"
	"factor/whole"
)

// Divide: the quotient (P5).
func Divide(a *Poly, b *Poly) (*Poly, api.Errno) {
	if len(b.numbers) == 0 {
		return nil, api.ErrZero
	}
	quotient, divides := quotientOf(a.numbers, b.numbers)
	if !divides {
		return nil, api.ErrRest
	}
	return bounded(quotient)
}

// quotientOf: the coefficients of a divided by b, perhaps with noughts at the
// end, and whether b divides a; b is not 0 and does not end in noughts.
func quotientOf(a []whole.Int, b []whole.Int) ([]whole.Int, bool) {
	lead := numberAt(b, len(b)-1)
	count := len(a) - len(b) + 1
	if count < 0 {
		count = 0
	}
	quotient := make([]whole.Int, count)
	rest := a
	for k := count - 1; k >= 0; k-- {
		top := numberAt(rest, k+len(b)-1)
		number, left := whole.Divide(top, lead)
		if left.Sign() != 0 {
			return nil, false
		}
		quotient[k] = number
		multiple := times(b, number, k)
		rest = difference(rest, multiple)
	}
	rest = trimmed(rest)
	return quotient, len(rest) == 0
}

// times: the coefficients of a number times x^power times a.
func times(a []whole.Int, number whole.Int, power int) []whole.Int {
	list := []whole.Int{}
	for k := 0; k < power; k++ {
		list = append(list, whole.Int{})
	}
	for k := 0; k < len(a); k++ {
		list = append(list, whole.Mul(a[k], number))
	}
	return list
}
