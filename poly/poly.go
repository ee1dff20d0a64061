// Package poly: polynomials with whole coefficients, and their factors: see DOC.md.
package poly

import (
	"factor/api"
	"factor/whole"
)

// Poly: a polynomial within the bounds. Nothing writes into it once it is made.
type Poly struct {
	numbers []whole.Int // the coefficient of x^k at k; the last is not 0
}

// Divide: the quotient (P5).
func Divide(a *Poly, b *Poly) (*Poly, api.Errno) { return nil, api.OK }

// Gcd: the greatest common divisor (P6).
func Gcd(a *Poly, b *Poly) (*Poly, api.Errno) { return nil, api.OK }

// Factor: the content, and the factors (P7).
func (p *Poly) Factor() (string, []api.Part, api.Errno) { return "", nil, api.OK }

// bounded: the polynomial of these coefficients, or ErrBig if it is not within
// the bounds. Every polynomial that is handed out comes from here.
func bounded(numbers []whole.Int) (*Poly, api.Errno) {
	count := len(numbers)
	for count > 0 && numbers[count-1].Sign() == 0 {
		count--
	}
	if count > api.MaxDeg+1 {
		return nil, api.ErrBig
	}
	kept := []whole.Int{}
	for k := 0; k < count; k++ {
		if numbers[k].Digits() > api.MaxDigits {
			return nil, api.ErrBig
		}
		kept = append(kept, numbers[k])
	}
	return &Poly{kept}, api.OK
}

// numberAt: the coefficient of x^k, 0 where there is no term.
func numberAt(numbers []whole.Int, k int) whole.Int {
	if k < 0 || k >= len(numbers) {
		return whole.Int{}
	}
	return numbers[k]
}
