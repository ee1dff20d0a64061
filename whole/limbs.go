package whole

// signed: the number of a sign and limbs, which may have noughts at the end.
func signed(below bool, limbs []int64) Int {
	kept := trimmed(limbs)
	return Int{below && len(kept) > 0, kept}
}

// trimmed: the limbs without the noughts at the end, as a fresh list.
func trimmed(limbs []int64) []int64 {
	n := len(limbs)
	for n > 0 && limbs[n-1] == 0 {
		n--
	}
	kept := make([]int64, n)
	copy(kept, limbs)
	return kept
}

// withLowest: the limbs, moved up, with one more beneath.
func withLowest(limbs []int64, lowest int64) []int64 {
	longer := make([]int64, len(limbs)+1)
	longer[0] = lowest
	for i := 0; i < len(limbs); i++ {
		longer[i+1] = limbs[i]
	}
	return longer
}

// limbAt: the limb at i, 0 beyond the end.
func limbAt(limbs []int64, i int) int64 {
	if i < 0 || i >= len(limbs) {
		return 0
	}
	return limbs[i]
}

// compareLimbs: -1, 0 or 1. Neither ends in noughts, so the longer is greater.
func compareLimbs(a []int64, b []int64) int {
	if len(a) < len(b) {
		return -1
	}
	if len(a) > len(b) {
		return 1
	}
	for i := len(a) - 1; i >= 0; i-- {
		x := limbAt(a, i)
		y := limbAt(b, i)
		if x < y {
			return -1
		}
		if x > y {
			return 1
		}
	}
	return 0
}

// addLimbs: the sum.
func addLimbs(a []int64, b []int64) []int64 {
	longer := len(a)
	if longer < len(b) {
		longer = len(b)
	}
	sum := make([]int64, longer+1)
	carry := int64(0)
	for i := 0; i < len(sum); i++ {
		x := limbAt(a, i)
		y := limbAt(b, i)
		t := x + y + carry
		sum[i] = t % base
		carry = t / base
	}
	return sum
}

// subLimbs: the difference a less b, where b is not greater than a.
func subLimbs(a []int64, b []int64) []int64 {
	rest := make([]int64, len(a))
	borrowed := int64(0)
	for i := 0; i < len(a); i++ {
		x := limbAt(a, i)
		y := limbAt(b, i)
		t := x - y - borrowed
		borrowed = 0
		if t < 0 {
			t = t + base
			borrowed = 1
		}
		rest[i] = t
	}
	return rest
}

// mulLimbs: the product.
func mulLimbs(a []int64, b []int64) []int64 {
	product := make([]int64, len(a)+len(b))
	for i := 0; i < len(a); i++ {
		carry := int64(0)
		for j := 0; j < len(b); j++ {
			t := product[i+j] + a[i]*b[j] + carry
			product[i+j] = t % base
			carry = t / base
		}
		product[i+len(b)] = carry
	}
	return product
}
