package poly_test

import (
	"math/big"
	"testing"

	"factor/api"
	"factor/poly"
)

// P6: what the document names, and edges ("" is ErrBig), either way round.
func TestGcdNamed(t *testing.T) {
	for _, c := range []struct{ a, b, want string }{
		{"6*x^2 - 6", "4*x + 4", "2*x + 2"}, {"0", "-3*x", "3*x"}, {"x", "x + 1", "1"},
		// 0 and numbers.
		{"0", "0", "0"}, {"0", "1", "1"}, {"0", "-1", "1"}, {"0", "-12", "12"}, {"1", "1", "1"}, {"-1", "-1", "1"},
		{"0", "3*x", "3*x"}, {"0", "-4*x^2 + 6*x", "4*x^2 - 6*x"}, {"0", "4*x^2 - 6*x", "4*x^2 - 6*x"},
		{"12", "18", "6"}, {"-12", "-18", "6"}, {"7", "9", "1"}, {"12", "18*x^3 - 30", "6"}, {"1", "2*x", "1"},
		{"-5", "5*x^10", "5"}, {"4", "6*x + 9", "1"}, {nines, nines, nines}, {nines, "999999999998", "1"},
		{nines, "0", nines}, {"-" + nines + "*x^10 + 1", "0", nines + "*x^10 - 1"},
		// Like polynomials, turned ones, multiples.
		{"x^10", "x^10", "x^10"}, {"x^10", "-x^3", "x^3"}, {"-x - 1", "x + 1", "x + 1"}, {"2 - 2*x", "x - 1", "x - 1"},
		{"2*x + 4", "3*x + 6", "x + 2"}, {"4*x + 8", "6*x + 12", "2*x + 4"}, {"2*x + 1", "4*x + 2", "2*x + 1"},
		{"-6*x^2 - 9*x", "-4*x^2 - 6*x", "2*x^2 + 3*x"}, {"6*x - 3", "4*x^2 - 1", "2*x - 1"},
		// Powers and common roots.
		{"x^10 - 1", "x^4 - 1", "x^2 - 1"}, {"x^10 - 1", "x^5 + 1", "x^5 + 1"}, {"x^9 - 1", "x^6 - 1", "x^3 - 1"},
		{"x^4 - 2*x^3 + x^2", "x^3 - x^2", "x^3 - x^2"}, {"x^2 + 2*x + 1", "x^2 - 1", "x + 1"},
		{"x^10 - 1", "x^7 - 1", "x - 1"}, {"x^9 + x", "x^8 + 2*x^4 + 1", "1"}, {"x^8 - 1", "x^8 + 2*x^4 + 1", "x^4 + 1"},
		// The rests on the way have hundreds of digits.
		{"999999999999*x^10 - 999999999998*x^9 + 7", "999999999997*x^10 + 999999999996*x^5 - 3", "1"},
		{"999999999989*x^10 - 999999999961*x^3 - 1", "999999999959*x^9 - 999999999937*x^2 + 1", "1"},
		{"123456789012*x^9 - 123456789012", "-987654321098*x^6 + 987654321098", "2*x^3 - 2"},
		// Coefficients of MaxDigits digits.
		{nines + "*x^2 - " + nines, nines + "*x - " + nines, nines + "*x - " + nines},
		{nines + "*x^2 + 999999999998*x - 1", "-" + nines + "*x^3 + x^2", nines + "*x - 1"},
		// Both are some number times x^2 - 2*x + 1 times another polynomial.
		{nines + "*x^3 - " + nines + "*x^2 - " + nines + "*x + " + nines, nines + "*x^4 - " + nines + "*x^3 - " + nines + "*x + " + nines, ""},
		{"499999999999*x^3 - 499999999999*x^2 - 499999999999*x + 499999999999", "499999999999*x^4 - 499999999999*x^3 - 499999999999*x + 499999999999", "499999999999*x^2 - 999999999998*x + 499999999999"},
		{nines + "*x^3 - " + nines + "*x^2 - " + nines + "*x + " + nines, "x^4 - x^3 - x + 1", "x^2 - 2*x + 1"},
	} {
		a, b := of(t, c.a), of(t, c.b)
		x, e := poly.Gcd(a, b)
		checkNamed(t, "P6: Gcd of "+c.a+" and "+c.b, x, e, c.want)
		x, e = poly.Gcd(b, a)
		checkNamed(t, "P6: Gcd of "+c.b+" and "+c.a, x, e, c.want)
	}
}

// gcdOf: the greatest common divisor, by division with fractions; the contents
// are put right behind.
func gcdOf(m []*big.Int, n []*big.Int) []*big.Int {
	a, b := fractions(m), fractions(n)
	for len(b) > 0 {
		_, rest := fractionDivide(a, b)
		a, b = b, rest
	}
	if len(a) == 0 {
		return nil
	}
	// Over its leading coefficient, and times what makes it whole, it is primitive.
	bottom := big.NewInt(1)
	for _, c := range a {
		d := new(big.Rat).Quo(c, a[len(a)-1]).Denom()
		g := new(big.Int).GCD(nil, nil, bottom, d)
		bottom = new(big.Int).Mul(bottom, new(big.Int).Quo(d, g))
	}
	scale := new(big.Rat).SetInt(new(big.Int).Mul(bottom, new(big.Int).GCD(nil, nil, contentOf(m), contentOf(n))))
	list := []*big.Int{}
	for _, c := range a {
		list = append(list, new(big.Int).Set(new(big.Rat).Mul(new(big.Rat).Quo(c, a[len(a)-1]), scale).Num()))
	}
	return list
}

func contentOf(numbers []*big.Int) *big.Int {
	content := new(big.Int)
	for _, n := range numbers {
		content.GCD(nil, nil, content, new(big.Int).Abs(n))
	}
	return content
}

// checkGcd: the answer must be that of division with fractions; and both are to
// be divided by it, and leave nothing in common.
func checkGcd(t *testing.T, m []*big.Int, n []*big.Int) api.Errno {
	t.Helper()
	a, b := built(t, m), built(t, n)
	x, e := poly.Gcd(a, b)
	call := "P6: Gcd of " + a.Text() + " and " + b.Text()
	checkCall(t, call, x, e, gcdOf(m, n))
	if x == nil || x.Text() == "0" {
		return e
	}
	p, e1 := poly.Divide(a, x)
	q, e2 := poly.Divide(b, x)
	if e1 == api.ErrRest || e2 == api.ErrRest {
		t.Errorf("%s = %s: it divides them with %d and %d", call, x.Text(), e1, e2)
	} else if p != nil && q != nil {
		one, _ := poly.Gcd(p, q)
		if one == nil || one.Text() != "1" {
			t.Errorf("%s = %s: the quotients have %v in common", call, x.Text(), one)
		}
	}
	return e
}

// P6: what has a known divisor in common, and what has none.
func TestGcdMany(t *testing.T) {
	d := dice(8)
	for i := range 1000 {
		degree := d.below(11)
		common := d.list(degree, 1+d.below(5))
		m := times(d.list(10-degree, 1+d.below(5)), common)
		n := times(d.list(d.below(11-degree), 1+d.below(5)), common)
		checkGcd(t, m, n)
		if i%10 == 0 {
			checkGcd(t, d.list(10, 12), d.list(d.below(11), 12))
			checkGcd(t, d.list(d.below(3), 12), n)
		}
	}
}

// P6: every small polynomial with every other.
func TestGcdSmall(t *testing.T) {
	list := smallLists(3, 2)
	for _, m := range list {
		for _, n := range list {
			checkGcd(t, m, n)
		}
	}
}

// P6: about the bounds of the divisor.
func TestGcdBig(t *testing.T) {
	d := dice(9)
	seen := [8]int{}
	for range 500 {
		degree := 2 + d.below(5)
		common := roots(&d, degree)
		m := flatMultiple(&d, common, 10-degree)
		n := flatMultiple(&d, common, 10-degree)
		if height(m).Cmp(height(n)) < 0 {
			m, n = n, m
		}
		m = greatest(&d, m)
		n = times(n, []*big.Int{contentOf(m)})
		seen[checkGcd(t, m, n)]++
		seen[checkGcd(t, n, m)]++
	}
	if seen[api.OK] < 100 || seen[api.ErrBig] < 50 {
		t.Errorf("the test has seen too little: %v", seen)
	}
}

// flatMultiple: a multiple of the polynomial, with coefficients as small as some
// tries find them.
func flatMultiple(d *dice, common []*big.Int, degree int) []*big.Int {
	best := times(common, roots(d, degree))
	for range 30 {
		multiple := times(common, roots(d, degree))
		if height(multiple).Cmp(height(best)) < 0 {
			best = multiple
		}
	}
	return best
}
