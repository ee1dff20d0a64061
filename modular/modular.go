// Package modular: polynomials modulo a prime number p. They are lists of numbers
// from 0 to p-1, the coefficient of x^k at k, without noughts at the end; p is
// below 1<<30, so that a product and a sum stay far below 1<<63.
package modular

// IsPrime: whether n is a prime number.
func IsPrime(n int) bool {
	for d := 2; d <= n/d; d++ {
		if n%d == 0 {
			return false
		}
	}
	return n > 1
}

// modulo: n, which is not below 0, modulo p.
func modulo(n int, p int) int {
	if p < 1 {
		return 0
	}
	return n % p
}

// inverse: the number that gives 1 times n, which is not 0 modulo p.
func inverse(n int, p int) int {
	// n^(p-1) is 1, so n^(p-2) is what is looked for.
	power := 1
	square := n
	for left := p - 2; left > 0; left = left / 2 {
		if left%2 == 1 {
			power = modulo(power*square, p)
		}
		square = modulo(square*square, p)
	}
	return modulo(power, p)
}

// Trim: the list without the noughts at its end, as a fresh one.
func Trim(a []int) []int {
	count := len(a)
	for count > 0 && a[count-1] == 0 {
		count--
	}
	kept := make([]int, count)
	copy(kept, a)
	return kept
}

// at: the number at k, 0 beyond the end.
func at(a []int, k int) int {
	if k < 0 || k >= len(a) {
		return 0
	}
	return a[k]
}

// lessTimes: a less a number times b.
func lessTimes(a []int, b []int, number int, p int) []int {
	list := []int{}
	for k := 0; k < len(a) || k < len(b); k++ {
		x := at(a, k)
		y := at(b, k)
		list = append(list, modulo(x+(p-number)*y, p))
	}
	return Trim(list)
}

// Mul: the product.
func Mul(a []int, b []int, p int) []int {
	product := make([]int, len(a)+len(b))
	for i := 0; i < len(a); i++ {
		for j := 0; j < len(b); j++ {
			product[i+j] = modulo(product[i+j]+a[i]*b[j], p)
		}
	}
	return Trim(product)
}

// Divide: the quotient, and the rest, which is of a lesser degree than b; divided
// by 0 the quotient is 0 and all is rest.
func Divide(a []int, b []int, p int) ([]int, []int) {
	last := len(b) - 1
	steps := len(a) - last
	if last < 0 || steps < 1 {
		return []int{}, Trim(a)
	}
	rest := make([]int, len(a))
	copy(rest, a)
	quotient := make([]int, steps)
	scale := inverse(b[last], p)
	for k := steps - 1; k >= 0; k-- {
		number := modulo(rest[k+last]*scale, p)
		quotient[k] = number
		for i := 0; i <= last; i++ {
			rest[k+i] = modulo(rest[k+i]+(p-number)*b[i], p)
		}
	}
	return Trim(quotient), Trim(rest[:last])
}

// monic: the polynomial divided by its leading coefficient; 0 of 0.
func monic(a []int, p int) []int {
	lead := at(a, len(a)-1)
	return Mul(a, []int{inverse(lead, p)}, p)
}

// gcd: the greatest common divisor, with the leading coefficient 1; 0 of 0 and 0.
func gcd(a []int, b []int, p int) []int {
	greater := a
	lesser := b
	for len(lesser) > 0 {
		_, rest := Divide(greater, lesser, p)
		greater = lesser
		lesser = rest
	}
	return monic(greater, p)
}

// SquareFree: whether no polynomial of degree 1 at least divides a twice.
func SquareFree(a []int, p int) bool {
	slope := []int{}
	for k := 1; k < len(a); k++ {
		slope = append(slope, modulo(modulo(k, p)*a[k], p))
	}
	common := gcd(a, Trim(slope), p)
	return len(common) == 1
}
