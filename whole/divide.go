package whole

// Divide: the quotient, cut off toward 0, and the rest, so that a is b times
// the quotient plus the rest. Divided by 0 the quotient is 0 and all is rest.
func Divide(a Int, b Int) (Int, Int) {
	if len(b.limbs) == 0 {
		return Int{}, a
	}
	quotient, rest := divideLimbs(a.limbs, b.limbs)
	return signed(a.below != b.below, quotient), signed(a.below, rest)
}

// Gcd: the greatest number that divides both; 0 of 0 and 0.
func Gcd(a Int, b Int) Int {
	greater := Abs(a)
	lesser := Abs(b)
	for lesser.Sign() != 0 {
		_, rest := Divide(greater, lesser)
		greater = lesser
		lesser = rest
	}
	return greater
}

// divideLimbs: the quotient and the rest, perhaps with noughts at the end; b is
// not 0 and does not end in noughts.
func divideLimbs(a []int64, b []int64) ([]int64, []int64) {
	if len(a) < len(b) {
		return []int64{}, a
	}
	if len(b) < 2 {
		return longDivision(a, b)
	}
	// With a last limb of half the base at least, guesses are never far off.
	scale := []int64{base / (limbAt(b, len(b)-1) + 1)}
	scaledA := mulLimbs(a, scale)
	scaledB := trimmed(mulLimbs(b, scale))
	quotient, scaledRest := longDivision(scaledA, scaledB)
	rest, _ := longDivision(scaledRest, scale)
	return quotient, rest
}

// longDivision: the quotient and the rest, perhaps with noughts at the end,
// found limb by limb from the highest. b has one limb that is not 0, or a last
// limb of half the base at least.
func longDivision(a []int64, b []int64) ([]int64, []int64) {
	steps := len(a) - len(b) + 1
	if steps < 1 || len(b) == 0 {
		return []int64{}, a
	}
	quotient := make([]int64, steps)
	rest := a[steps:]
	for i := steps - 1; i >= 0; i-- {
		longer := withLowest(rest, a[i])
		limb := guess(longer, b)
		left, enough := lessTimes(longer, b, limb)
		for limb > 0 && !enough {
			limb--
			left, enough = lessTimes(longer, b, limb)
		}
		rest = left
		quotient[i] = limb
	}
	return quotient, rest
}

// guess: how often b is in a, which is less than base times b: never too few
// times, and of a b as longDivision takes it at most two too many.
func guess(a []int64, b []int64) int64 {
	last := len(b) - 1
	divisor := limbAt(b, last)
	if divisor <= 0 {
		return 0
	}
	high := limbAt(a, last+1)
	low := limbAt(a, last)
	times := (high*base + low) / divisor
	if times >= base {
		return base - 1
	}
	return times
}

// lessTimes: a less a limb times b, as many limbs as b has, which is enough if
// b is in a no more than so often; and whether a is not less than that.
func lessTimes(a []int64, b []int64, limb int64) ([]int64, bool) {
	rest := make([]int64, len(b))
	borrowed := int64(0)
	for i := 0; i < len(b); i++ {
		taken := b[i]*limb + borrowed
		t := limbAt(a, i) - taken%base
		borrowed = taken / base
		if t < 0 {
			t = t + base
			borrowed++
		}
		rest[i] = t
	}
	return rest, limbAt(a, len(b)) >= borrowed
}
