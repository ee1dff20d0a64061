package whole

// Modulo: what is to be taken from a, so that n divides it: from 0 to n-1, of
// numbers below 0 too. n is from 1 to the base of the limbs, else the answer is 0.
func (a Int) Modulo(n int) int {
	divisor := int64(n)
	if divisor < 1 || divisor > base {
		return 0
	}
	rest := int64(0)
	for i := len(a.limbs) - 1; i >= 0; i-- {
		rest = (rest*base + a.limbs[i]) % divisor
	}
	if a.below && rest > 0 {
		rest = divisor - rest
	}
	return int(rest)
}
