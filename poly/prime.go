package poly

import (
	"factor/modular"
	"factor/whole"
)

// primesBelow: among the primes below it is one that fits. One that does not
// divides the resultant of the polynomial and its slope, which has some 310
// digits at most; the product of the primes below 1000 has more than 400.
const primesBelow = 1000

// primeFactors: the prime factors, with leading coefficients above 0, of a
// primitive square-free polynomial with a leading coefficient above 0; none of 1.
// (The way is Zassenhaus's: they are put together from those modulo a prime number,
// when these have been lifted to a modulus beyond all their coefficients.)
func primeFactors(f []whole.Int) [][]whole.Int {
	if len(f) < 2 {
		return [][]whole.Int{}
	}
	p := fittingPrime(f)
	parts := modular.Split(reduced(f, p), p)
	beyond := whole.Mul(whole.Small(2), bound(f))
	lifted, modulus := lift(f, parts, p, beyond)
	return combine(f, lifted, modulus)
}

// fittingPrime: a prime number modulo which the polynomial keeps its degree, and
// is square-free.
func fittingPrime(f []whole.Int) int {
	p := 2
	for p < primesBelow && !fits(f, p) {
		p++
	}
	return p
}

// fits: whether p is a prime number as fittingPrime wants it.
func fits(f []whole.Int, p int) bool {
	if !modular.IsPrime(p) {
		return false
	}
	image := reduced(f, p)
	return len(image) == len(f) && modular.SquareFree(image, p)
}

// reduced: the polynomial modulo p.
func reduced(f []whole.Int, p int) []int {
	list := []int{}
	for k := 0; k < len(f); k++ {
		list = append(list, f[k].Modulo(p))
	}
	return modular.Trim(list)
}

// bound: no coefficient of a factor of f is greater, nor when the factor has been
// multiplied by a number so that its leading coefficient becomes f's: it is 2 to
// the degree (Mignotte), times the sum of the coefficients without their signs.
func bound(f []whole.Int) whole.Int {
	total := whole.Int{}
	for k := 0; k < len(f); k++ {
		total = whole.Add(total, whole.Abs(f[k]))
	}
	for k := 1; k < len(f); k++ {
		total = whole.Add(total, total)
	}
	return total
}

// combine: the prime factors of f, each the product of some of the factors that
// are lifted to the modulus.
func combine(f []whole.Int, lifted [][]whole.Int, modulus whole.Int) [][]whole.Int {
	found := [][]whole.Int{}
	left := trimmed(f)
	taken := 0
	// The bits of a choice name the lifted factors that it takes. A choice comes
	// behind all of its parts, so that what is found is prime. What the last one
	// belongs to is left when all else has been found.
	last := 1
	for i := 1; i < len(lifted); i++ {
		last = last * 2
	}
	for choice := 1; choice < last; choice++ {
		if choice&taken != 0 {
			continue
		}
		candidate := chosen(left, lifted, choice, modulus)
		quotient, divides := quotientOf(left, candidate)
		if divides {
			found = append(found, candidate)
			left = trimmed(quotient)
			taken = taken | choice
		}
	}
	return append(found, left)
}

// chosen: the primitive polynomial that the choice makes, if it makes a factor of
// f: the product times f's leading coefficient, with the coefficients that are
// nearest to 0.
func chosen(f []whole.Int, lifted [][]whole.Int, choice int, modulus whole.Int) []whole.Int {
	both := []whole.Int{numberAt(f, len(f)-1)}
	bits := choice
	for i := 0; i < len(lifted); i++ {
		if bits%2 == 1 {
			both = nearest(product(both, lifted[i]), modulus)
		}
		bits = bits / 2
	}
	return primitive(trimmed(both))
}

// nearest: the coefficients that are nearest to 0, modulo the modulus.
func nearest(numbers []whole.Int, modulus whole.Int) []whole.Int {
	list := []whole.Int{}
	for k := 0; k < len(numbers); k++ {
		_, rest := whole.Divide(numbers[k], modulus)
		twice := whole.Abs(whole.Add(rest, rest))
		if whole.Compare(twice, modulus) > 0 && rest.Sign() > 0 {
			rest = whole.Sub(rest, modulus)
		} else if whole.Compare(twice, modulus) > 0 {
			rest = whole.Add(rest, modulus)
		}
		list = append(list, rest)
	}
	return list
}
