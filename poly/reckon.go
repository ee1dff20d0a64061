package poly

import (
	"factor/api"
	"factor/whole"
)

// Add: the sum (P4).
func Add(a *Poly, b *Poly) (*Poly, api.Errno) {
	return bounded(sum(a.numbers, b.numbers))
}

// Sub: the difference (P4).
func Sub(a *Poly, b *Poly) (*Poly, api.Errno) {
	return bounded(difference(a.numbers, b.numbers))
}

// Mul: the product (P4).
func Mul(a *Poly, b *Poly) (*Poly, api.Errno) {
	return bounded(product(a.numbers, b.numbers))
}

// Shift: x + s for x (P4).
func (p *Poly) Shift(s int) (*Poly, api.Errno) {
	if s < -api.MaxShift || s > api.MaxShift {
		return nil, api.ErrArg
	}
	moved := []whole.Int{whole.Small(s), whole.Small(1)}
	shifted := []whole.Int{}
	for k := len(p.numbers) - 1; k >= 0; k-- {
		shifted = product(shifted, moved)
		shifted = sum(shifted, []whole.Int{p.numbers[k]})
	}
	return bounded(shifted)
}

// sum: the coefficients of the sum, perhaps with noughts at the end.
func sum(a []whole.Int, b []whole.Int) []whole.Int {
	total := []whole.Int{}
	for k := 0; k < len(a) || k < len(b); k++ {
		x := numberAt(a, k)
		y := numberAt(b, k)
		total = append(total, whole.Add(x, y))
	}
	return total
}

// difference: the coefficients of a less b, perhaps with noughts at the end.
func difference(a []whole.Int, b []whole.Int) []whole.Int {
	total := []whole.Int{}
	for k := 0; k < len(a) || k < len(b); k++ {
		x := numberAt(a, k)
		y := numberAt(b, k)
		total = append(total, whole.Sub(x, y))
	}
	return total
}

// product: the coefficients of the product, perhaps with noughts at the end.
func product(a []whole.Int, b []whole.Int) []whole.Int {
	total := []whole.Int{}
	for k := 0; k < len(a)+len(b)-1; k++ {
		total = append(total, productAt(a, b, k))
	}
	return total
}

// productAt: the coefficient of x^k in the product.
func productAt(a []whole.Int, b []whole.Int, k int) whole.Int {
	total := whole.Int{}
	for i := 0; i <= k; i++ {
		x := numberAt(a, i)
		y := numberAt(b, k-i)
		both := whole.Mul(x, y)
		total = whole.Add(total, both)
	}
	return total
}
