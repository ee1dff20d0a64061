package poly

import (
	"factor/api"
	"factor/whole"
)

// Factor: the content, and the factors (P7).
func (p *Poly) Factor() (string, []api.Part, api.Errno) {
	if len(p.numbers) == 0 {
		return "", nil, api.ErrZero
	}
	number := content(p.numbers)
	left := primitive(p.numbers)
	// Every prime factor divides the square-free part, once; how often it divides
	// the polynomial is told by dividing.
	primes := ordered(primeFactors(squareFree(left)))
	parts := []api.Part{}
	for i := 0; i < len(primes); i++ {
		rest, count := dividedOut(left, primes[i])
		left = rest
		parts = append(parts, api.Part{P: textOf(primes[i]), E: count})
	}
	return number.Text(), parts, api.OK
}

// squareFree: the product of the prime factors of a primitive polynomial, each
// once.
func squareFree(numbers []whole.Int) []whole.Int {
	// A factor that stands n times in it stands n-1 times in its slope.
	common := primitiveGcd(numbers, primitive(slope(numbers)))
	quotient, _ := quotientOf(numbers, common)
	return trimmed(quotient)
}

// slope: the coefficients of the derivative.
func slope(numbers []whole.Int) []whole.Int {
	list := []whole.Int{}
	for k := 1; k < len(numbers); k++ {
		list = append(list, whole.Mul(numbers[k], whole.Small(k)))
	}
	return list
}

// dividedOut: the polynomial divided by a factor as often as may be, and how often
// that is; the factor is of degree 1 at least.
func dividedOut(numbers []whole.Int, factor []whole.Int) ([]whole.Int, int) {
	left := trimmed(numbers)
	for count := 0; count < len(numbers); count++ {
		quotient, divides := quotientOf(left, factor)
		if !divides {
			return left, count
		}
		left = trimmed(quotient)
	}
	return left, len(numbers)
}

// ordered: the polynomials, rising by P7's order.
func ordered(list [][]whole.Int) [][]whole.Int {
	rising := [][]whole.Int{}
	for i := 0; i < len(list); i++ {
		rising = append(rising, list[i])
		for k := i; k > 0 && before(rising[k], rising[k-1]); k-- {
			lesser := rising[k]
			rising[k] = rising[k-1]
			rising[k-1] = lesser
		}
	}
	return rising
}

// before: whether a stands before b in P7's order. Neither ends in noughts.
func before(a []whole.Int, b []whole.Int) bool {
	if len(a) != len(b) {
		return len(a) < len(b)
	}
	for k := len(a) - 1; k >= 0; k-- {
		order := whole.Compare(a[k], b[k])
		if order != 0 {
			return order < 0
		}
	}
	return false
}
