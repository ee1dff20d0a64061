package modular

// Cofactors: for the prime factors of a square-free polynomial f, each with the
// leading coefficient 1, what gives 1 times the product of f's other factors (its
// leading coefficient among them), modulo the factor. So any e of a lesser degree
// than f is the sum of these products, each times the rest of e times the cofactor
// divided by the factor: they are alike modulo every factor.
func Cofactors(f []int, parts [][]int, p int) [][]int {
	list := [][]int{}
	for i := 0; i < len(parts); i++ {
		others, _ := Divide(f, parts[i], p)
		list = append(list, inverseModulo(others, parts[i], p))
	}
	return list
}

// inverseModulo: what gives 1 times a, modulo b; they have nothing in common.
func inverseModulo(a []int, b []int, p int) []int {
	// Each of the two is, but for multiples of b, a times its share.
	greater := b
	lesser := a
	greaterShare := []int{}
	lesserShare := []int{1}
	for len(lesser) > 0 {
		quotient, rest := Divide(greater, lesser, p)
		taken := Mul(quotient, lesserShare, p)
		share := lessTimes(greaterShare, taken, 1, p)
		greater = lesser
		greaterShare = lesserShare
		lesser = rest
		lesserShare = share
	}
	scale := inverse(at(greater, 0), p)
	_, rest := Divide(Mul(greaterShare, []int{scale}, p), b, p)
	return rest
}
