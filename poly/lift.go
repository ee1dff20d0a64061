package poly

import (
	"factor/modular"
	"factor/whole"
)

// lift: factors of f, with the leading coefficient 1, that are the given ones
// modulo p, and their modulus: a power of p greater than beyond, modulo which f is
// its leading coefficient times their product (the way is Hensel's). Modulo p f is
// square-free, and of the same degree.
func lift(f []whole.Int, parts [][]int, p int, beyond whole.Int) ([][]whole.Int, whole.Int) {
	cofactors := modular.Cofactors(reduced(f, p), parts, p)
	modulus := whole.Small(p)
	lifted := [][]whole.Int{}
	for i := 0; i < len(parts); i++ {
		lifted = append(lifted, wholeNumbers(parts[i]))
	}
	for whole.Compare(modulus, beyond) <= 0 {
		missing := reduced(missingOf(f, lifted, modulus), p)
		higher := [][]whole.Int{}
		for i := 0; i < len(parts); i++ {
			share := modular.Mul(missing, cofactors[i], p)
			_, rest := modular.Divide(share, parts[i], p)
			step := times(wholeNumbers(rest), modulus, 0)
			higher = append(higher, sum(lifted[i], step))
		}
		lifted = higher
		modulus = whole.Mul(modulus, whole.Small(p))
	}
	return lifted, modulus
}

// missingOf: by how many times the modulus f exceeds its leading coefficient times
// the product of the factors.
func missingOf(f []whole.Int, lifted [][]whole.Int, modulus whole.Int) []whole.Int {
	all := []whole.Int{numberAt(f, len(f)-1)}
	for i := 0; i < len(lifted); i++ {
		all = product(all, lifted[i])
	}
	list := []whole.Int{}
	excess := difference(f, all)
	for k := 0; k < len(excess); k++ {
		number, _ := whole.Divide(excess[k], modulus)
		list = append(list, number)
	}
	return list
}

// wholeNumbers: the list as whole numbers.
func wholeNumbers(numbers []int) []whole.Int {
	list := []whole.Int{}
	for k := 0; k < len(numbers); k++ {
		list = append(list, whole.Small(numbers[k]))
	}
	return list
}
