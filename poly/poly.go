// Package poly: polynomials with whole coefficients, and their factors: see DOC.md.
package poly

import (
	"factor/api"
	"factor/whole"
)

// Poly: a polynomial within the bounds. Nothing writes into it once it is made.
type Poly struct {
	numbers []whole.Int // the coefficient of x^k at k; the last is not 0
}

// bounded: the polynomial of these coefficients, or ErrBig if it is not within
// the bounds. Every polynomial that is handed out comes from here.
func bounded(numbers []whole.Int) (*Poly, api.Errno) {
	kept := trimmed(numbers)
	if len(kept) > api.MaxDeg+1 {
		return nil, api.ErrBig
	}
	for k := 0; k < len(kept); k++ {
		if kept[k].Digits() > api.MaxDigits {
			return nil, api.ErrBig
		}
	}
	return &Poly{kept}, api.OK
}

// trimmed: the coefficients without the noughts at the end, as a fresh list.
func trimmed(numbers []whole.Int) []whole.Int {
	count := len(numbers)
	for count > 0 && numbers[count-1].Sign() == 0 {
		count--
	}
	kept := []whole.Int{}
	for k := 0; k < count; k++ {
		kept = append(kept, numbers[k])
	}
	return kept
}

// numberAt: the coefficient of x^k, 0 where there is no term.
func numberAt(numbers []whole.Int, k int) whole.Int {
	if k < 0 || k >= len(numbers) {
		return whole.Int{}
	}
	return numbers[k]
}
