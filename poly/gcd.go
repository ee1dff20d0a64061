package poly

import (
	"factor/api"
	"factor/whole"
)

// Gcd: the greatest common divisor (P6).
func Gcd(a *Poly, b *Poly) (*Poly, api.Errno) {
	// The content of the product of two polynomials is the product of their
	// contents; so contents and primitive parts may be looked at apart.
	contentA := content(a.numbers)
	contentB := content(b.numbers)
	number := whole.Gcd(contentA, contentB)
	primitiveA := primitive(a.numbers)
	primitiveB := primitive(b.numbers)
	common := primitiveGcd(primitiveA, primitiveB)
	return bounded(times(common, number, 0))
}

// content: the greatest number that divides all coefficients, with the sign of
// the last of them; 0 of 0. They do not end in noughts.
func content(numbers []whole.Int) whole.Int {
	greatest := whole.Int{}
	for k := 0; k < len(numbers); k++ {
		greatest = whole.Gcd(greatest, numbers[k])
	}
	lead := numberAt(numbers, len(numbers)-1)
	if lead.Sign() < 0 {
		return whole.Neg(greatest)
	}
	return greatest
}

// primitive: the coefficients divided by their content; 0 of 0. They do not end
// in noughts.
func primitive(numbers []whole.Int) []whole.Int {
	divisor := content(numbers)
	list := []whole.Int{}
	for k := 0; k < len(numbers); k++ {
		number, _ := whole.Divide(numbers[k], divisor)
		list = append(list, number)
	}
	return list
}

// primitiveGcd: the primitive greatest common divisor of two polynomials, each
// primitive or 0; 0 if both are.
func primitiveGcd(a []whole.Int, b []whole.Int) []whole.Int {
	greater := a
	lesser := b
	for len(lesser) > 0 {
		rest := trimmed(restOf(greater, lesser))
		greater = lesser
		// A primitive polynomial that divides a number times the rest divides
		// the rest's primitive part; and so numbers stay as small as may be.
		lesser = primitive(rest)
	}
	return greater
}

// restOf: what is left of some number times a, when b has been taken away until
// the degree is less than b's; b is not 0 and does not end in noughts.
func restOf(a []whole.Int, b []whole.Int) []whole.Int {
	lead := numberAt(b, len(b)-1)
	rest := a
	for k := len(a) - len(b); k >= 0; k-- {
		top := numberAt(rest, k+len(b)-1)
		multiple := times(b, top, k)
		rest = times(rest, lead, 0)
		rest = difference(rest, multiple)
	}
	return rest
}
