package whole

// signed: the number of a sign and limbs, which may have noughts at the end.
func signed(below bool, limbs []int64) Int {
	n := len(limbs)
	for n > 0 && limbs[n-1] == 0 {
		n--
	}
	kept := []int64{}
	for i := 0; i < n; i++ {
		kept = append(kept, limbs[i])
	}
	return Int{below && n > 0, kept}
}

// limbAt: the limb at i, 0 beyond the end.
func limbAt(limbs []int64, i int) int64 {
	if i < 0 || i >= len(limbs) {
		return 0
	}
	return limbs[i]
}

// compareLimbs: -1, 0 or 1. Neither ends in noughts, so the longer is greater.
func compareLimbs(a []int64, b []int64) int {
	if len(a) < len(b) {
		return -1
	}
	if len(a) > len(b) {
		return 1
	}
	for i := len(a) - 1; i >= 0; i-- {
		x := limbAt(a, i)
		y := limbAt(b, i)
		if x < y {
			return -1
		}
		if x > y {
			return 1
		}
	}
	return 0
}

// addLimbs: the sum.
func addLimbs(a []int64, b []int64) []int64 {
	sum := []int64{}
	carry := int64(0)
	for i := 0; i < len(a) || i < len(b); i++ {
		x := limbAt(a, i)
		y := limbAt(b, i)
		t := x + y + carry
		sum = append(sum, t%base)
		carry = t / base
	}
	return append(sum, carry)
}

// subLimbs: the difference a less b, where b is not greater than a.
func subLimbs(a []int64, b []int64) []int64 {
	rest := []int64{}
	borrowed := int64(0)
	for i := 0; i < len(a); i++ {
		x := limbAt(a, i)
		y := limbAt(b, i)
		t := x - y - borrowed
		borrowed = 0
		if t < 0 {
			t = t + base
			borrowed = 1
		}
		rest = append(rest, t)
	}
	return rest
}

// mulLimbs: the product.
func mulLimbs(a []int64, b []int64) []int64 {
	product := []int64{}
	for i := 0; i < len(a)+len(b); i++ {
		product = append(product, 0)
	}
	for i := 0; i < len(a); i++ {
		carry := int64(0)
		for j := 0; j < len(b); j++ {
			t := product[i+j] + a[i]*b[j] + carry
			product[i+j] = t % base
			carry = t / base
		}
		product[i+len(b)] = carry
	}
	return product
}
