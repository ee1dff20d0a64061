package modular

// Split: the prime factors, each with the leading coefficient 1, of a polynomial
// of degree 1 at least that is square-free (the way is Berlekamp's).
func Split(f []int, p int) [][]int {
	parts := [][]int{monic(f, p)}
	// Modulo each of the prime factors a fixed polynomial is a number, and the
	// numbers may be chosen freely: so there are as many in a basis as factors,
	// and any two factors are told apart by some polynomial of the basis.
	basis := fixedBasis(f, p)
	for i := 0; i < len(basis) && len(parts) < len(basis); i++ {
		parts = splitBy(parts, basis[i], p)
	}
	return parts
}

// splitBy: the parts, split into what divides the fixed polynomial less a number,
// for each of the numbers.
func splitBy(parts [][]int, fixed []int, p int) [][]int {
	finer := [][]int{}
	for i := 0; i < len(parts); i++ {
		for number := 0; number < p; number++ {
			moved := lessTimes(fixed, []int{1}, number, p)
			part := gcd(parts[i], moved, p)
			if len(part) > 1 {
				finer = append(finer, part)
			}
		}
	}
	return finer
}

// fixedBasis: a basis of the fixed polynomials: those of a lesser degree than f
// whose power p is themselves, modulo f.
func fixedBasis(f []int, p int) [][]int {
	rows := powers(f, p)
	basis := [][]int{}
	for k := 0; k < len(rows); k++ {
		unit := make([]int, k+1)
		unit[k] = 1
		basis = append(basis, unit)
	}
	for k := 0; k < len(rows); k++ {
		basis = narrowed(basis, equation(rows, k, p), p)
	}
	return basis
}

// powers: the rests of x^(p*i) divided by f, for each i less than its degree. The
// power p of a polynomial is the sum of its coefficients times these.
func powers(f []int, p int) [][]int {
	step := []int{1}
	for k := 0; k < p; k++ {
		longer := Mul(step, []int{0, 1}, p)
		_, rest := Divide(longer, f, p)
		step = rest
	}
	rows := [][]int{}
	row := []int{1}
	for i := 1; i < len(f); i++ {
		rows = append(rows, row)
		both := Mul(row, step, p)
		_, rest := Divide(both, f, p)
		row = rest
	}
	return rows
}

// equation: what the coefficients of a fixed polynomial times these numbers add
// up to is 0: by how much that of x^k in its power p exceeds its own.
func equation(rows [][]int, k int, p int) []int {
	numbers := []int{}
	for i := 0; i < len(rows); i++ {
		number := at(rows[i], k)
		if i == k {
			number = number + p - 1
		}
		numbers = append(numbers, modulo(number, p))
	}
	return numbers
}

// narrowed: a basis of those sums of the basis that satisfy the equation.
func narrowed(basis [][]int, numbers []int, p int) [][]int {
	kept := [][]int{}
	spent := []int{}
	scale := 0
	for i := 0; i < len(basis); i++ {
		value := valueOf(basis[i], numbers, p)
		if value != 0 && scale == 0 {
			spent = basis[i]
			scale = inverse(value, p)
			continue
		}
		share := modulo(value*scale, p)
		kept = append(kept, lessTimes(basis[i], spent, share, p))
	}
	return kept
}

// valueOf: the sum of the coefficients, each times its number.
func valueOf(a []int, numbers []int, p int) int {
	total := 0
	for k := 0; k < len(a); k++ {
		number := at(numbers, k)
		total = modulo(total+a[k]*number, p)
	}
	return total
}
