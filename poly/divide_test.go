package poly_test

import (
	"math/big"
	"testing"

	"factor/api"
	"factor/poly"
)

// nines: the greatest number of MaxDigits digits.
const nines = "999999999999"

// P5: what the document names, and edges.
func TestDivideNamed(t *testing.T) {
	for _, c := range []struct {
		a, b, want string
		e          api.Errno
	}{
		{"x^3 - 1", "x - 1", "x^2 + x + 1", api.OK}, {"x^3 - 1", "x + 1", "", api.ErrRest},
		{"x^3 - 1", "0", "", api.ErrZero}, {"2*x", "4", "", api.ErrRest}, {"6*x^2", "-2*x", "-3*x", api.OK},
		// 0 on either side.
		{"0", "0", "", api.ErrZero}, {"7", "0", "", api.ErrZero}, {"0", "7", "0", api.OK},
		{"0", "-1", "0", api.OK}, {"0", nines + "*x^10 - 1", "0", api.OK}, {nines + "*x^10", "0", "", api.ErrZero},
		// Numbers on either side.
		{"12", "4", "3", api.OK}, {"12", "-4", "-3", api.OK}, {"-12", "-4", "3", api.OK}, {"12", "5", "", api.ErrRest},
		{"4", "12", "", api.ErrRest}, {"-7", "1", "-7", api.OK}, {"-7", "-1", "7", api.OK}, {"1", "-1", "-1", api.OK},
		{"7", "x", "", api.ErrRest}, {"x", "x", "1", api.OK}, {"-x", "x", "-1", api.OK},
		{nines, nines, "1", api.OK}, {nines, "-3", "-333333333333", api.OK}, {nines, "1000001", "999999", api.OK},
		{"1", nines, "", api.ErrRest}, {nines, "999999999998", "", api.ErrRest},
		// A content that does not divide: at the lead, in the middle, at the end.
		{"3*x^2 + 2*x + 4", "2", "", api.ErrRest}, {"2*x^2 + 3*x + 4", "2", "", api.ErrRest},
		{"2*x^2 + 4*x + 3", "2", "", api.ErrRest}, {"2*x^2 + 4*x + 6", "2", "x^2 + 2*x + 3", api.OK},
		{"x^2 - 1", "2*x - 2", "", api.ErrRest}, {"2*x^2 - 2", "2*x - 2", "x + 1", api.OK},
		{"x^2 + x", "2*x", "", api.ErrRest}, {"6*x^2 + 3*x", "2*x + 1", "3*x", api.OK},
		// Rests at every power.
		{"x^4 + 1", "x^2", "", api.ErrRest}, {"x^4 + x", "x^2", "", api.ErrRest}, {"x^4 + x^2", "x^2", "x^2 + 1", api.OK},
		{"x^3 - 1", "x^2 + 1", "", api.ErrRest}, {"x^2", "x^3", "", api.ErrRest}, {"x^9", "x^10", "", api.ErrRest},
		{"x^10", "x^10", "1", api.OK}, {"x^10", "x^9", "x", api.OK}, {"-x^10", "x^3", "-x^7", api.OK},
		{"x^10 + 1", "x^10 - 1", "", api.ErrRest}, {"x^10 - 1", "x - 1", "x^9 + x^8 + x^7 + x^6 + x^5 + x^4 + x^3 + x^2 + x + 1", api.OK},
		// Coefficients of MaxDigits digits.
		{nines + "*x^10 - " + nines, "x - 1", "999999999999*x^9 + 999999999999*x^8 + 999999999999*x^7 + 999999999999*x^6 + 999999999999*x^5 + 999999999999*x^4 + 999999999999*x^3 + 999999999999*x^2 + 999999999999*x + 999999999999", api.OK},
		{nines + "*x^10 - " + nines, "-" + nines, "-x^10 + 1", api.OK},
		{nines + "*x^10 - " + nines, nines + "*x - " + nines, "x^9 + x^8 + x^7 + x^6 + x^5 + x^4 + x^3 + x^2 + x + 1", api.OK},
		{nines + "*x^2 + 999999999998*x - 1", nines + "*x - 1", "x + 1", api.OK},
		{nines + "*x^2 + 999999999998*x - 1", "x + 1", nines + "*x - 1", api.OK},
		// The quotient is x^2 - 2*x + 1, some number times.
		{nines + "*x^3 - " + nines + "*x^2 - " + nines + "*x + " + nines, "x + 1", "", api.ErrBig},
		{"500000000000*x^3 - 500000000000*x^2 - 500000000000*x + 500000000000", "-x - 1", "", api.ErrBig},
		{"499999999999*x^3 - 499999999999*x^2 - 499999999999*x + 499999999999", "x + 1", "499999999999*x^2 - 999999999998*x + 499999999999", api.OK},
		// ErrRest is named ahead of ErrBig: here the quotient would be as great.
		{nines + "*x^3 - " + nines + "*x^2 - " + nines + "*x + 999999999998", "x + 1", "", api.ErrRest},
		// On the way, powers of great numbers come up.
		{"x^10", "x - " + nines, "", api.ErrRest}, {"x^10", "x + " + nines, "", api.ErrRest},
		{nines + "*x^10 + 1", "x^2 - " + nines + "*x + " + nines, "", api.ErrRest},
	} {
		x, e := poly.Divide(of(t, c.a), of(t, c.b))
		if e != c.e || (x == nil) != (e != api.OK) {
			t.Errorf("P5: %s divided by %s = %v, %d, want %q, %d", c.a, c.b, x, e, c.want, c.e)
		} else if x != nil && x.Text() != c.want {
			t.Errorf("P5: %s divided by %s = %s, want %s", c.a, c.b, x.Text(), c.want)
		}
	}
}

// fractions: the coefficients as fractions, without noughts at the end.
func fractions(numbers []*big.Int) []*big.Rat {
	list := []*big.Rat{}
	for _, n := range numbers {
		list = append(list, new(big.Rat).SetInt(n))
	}
	return cut(list)
}

func cut(list []*big.Rat) []*big.Rat {
	for len(list) > 0 && list[len(list)-1].Sign() == 0 {
		list = list[:len(list)-1]
	}
	return list
}

// fractionDivide: the quotient and the rest of division with fractions.
func fractionDivide(a []*big.Rat, b []*big.Rat) ([]*big.Rat, []*big.Rat) {
	rest := []*big.Rat{}
	for _, n := range a {
		rest = append(rest, new(big.Rat).Set(n))
	}
	quotient := make([]*big.Rat, max(0, len(a)-len(b)+1))
	for k := len(quotient) - 1; k >= 0; k-- {
		quotient[k] = new(big.Rat).Quo(rest[k+len(b)-1], b[len(b)-1])
		for i, n := range b {
			rest[k+i].Sub(rest[k+i], new(big.Rat).Mul(n, quotient[k]))
		}
	}
	return cut(quotient), cut(rest)
}

// checkDivide: the answer must be that of division with fractions, if there is
// no rest and no fraction in it.
func checkDivide(t *testing.T, m []*big.Int, n []*big.Int) api.Errno {
	t.Helper()
	x, e := poly.Divide(built(t, m), built(t, n))
	call := "P5: " + textOf(m) + " divided by " + textOf(n)
	b := fractions(n)
	if len(b) == 0 {
		if x != nil || e != api.ErrZero {
			t.Errorf("%s = %v, %d, want ErrZero", call, x, e)
		}
		return e
	}
	quotient, rest := fractionDivide(fractions(m), b)
	divides := len(rest) == 0
	want := []*big.Int{}
	for _, c := range quotient {
		divides = divides && c.IsInt()
		want = append(want, c.Num())
	}
	if divides {
		checkCall(t, call, x, e, want)
	} else if x != nil || e != api.ErrRest {
		t.Errorf("%s = %v, %d, want ErrRest", call, x, e)
	}
	return e
}

// P5: products, and what is nearly one.
func TestDivideMany(t *testing.T) {
	d := dice(6)
	seen := [8]int{}
	for i := range 4000 {
		degree := d.below(11)
		m := d.list(degree, 1+d.below(6))
		n := d.list(10-degree, 1+d.below(5))
		both := times(m, n)
		seen[checkDivide(t, both, n)]++
		k := d.below(11)
		nearly := plus(both, times(d.list(0, 1), power(k)), 1)
		seen[checkDivide(t, nearly, n)]++
		if i%4 == 0 {
			seen[checkDivide(t, m, n)]++
			seen[checkDivide(t, d.list(10, 12), d.list(d.below(11), 12))]++
		}
	}
	if seen[api.OK] < 3000 || seen[api.ErrRest] < 1000 || seen[api.ErrZero] < 10 {
		t.Errorf("the test has seen too little: %v", seen)
	}
}

// power: x^k.
func power(k int) []*big.Int {
	list := []*big.Int{}
	for range k {
		list = append(list, new(big.Int))
	}
	return append(list, big.NewInt(1))
}

// P5: every small polynomial by every other.
func TestDivideSmall(t *testing.T) {
	list := smallLists(3, 2)
	for _, m := range list {
		for _, n := range list {
			checkDivide(t, m, n)
		}
	}
}

// smallLists: all lists of so many coefficients from -most to most.
func smallLists(count int, most int64) [][]*big.Int {
	lists := [][]*big.Int{{}}
	for range count {
		longer := [][]*big.Int{}
		for _, list := range lists {
			for c := -most; c <= most; c++ {
				longer = append(longer, append(append([]*big.Int{}, list...), big.NewInt(c)))
			}
		}
		lists = longer
	}
	return lists
}

// roots: a product of polynomials such as x^2 + x + 1, whose coefficients are
// often less than those of what divides it.
func roots(d *dice, degree int) []*big.Int {
	list := []*big.Int{big.NewInt(1)}
	for {
		part := [][]int64{{-1, 1}, {-1, 1}, {1, 1}, {1, 1, 1}, {1, 0, 1}, {1, -1, 1}, {1, 1, 1, 1, 1}, {1, 0, 0, 0, 1}}[d.below(8)]
		if len(part) > degree+1 {
			return list
		}
		degree -= len(part) - 1
		factor := []*big.Int{}
		for _, c := range part {
			factor = append(factor, big.NewInt(c))
		}
		list = times(list, factor)
	}
}

// greatest: the polynomial times the greatest number with which it is within the
// bounds, or one a little less, perhaps turned.
func greatest(d *dice, list []*big.Int) []*big.Int {
	number, _ := new(big.Int).SetString(nines, 10)
	number.Quo(number, height(list))
	number.Sub(number, big.NewInt(int64(d.below(3))))
	if d.below(2) == 0 {
		number.Neg(number)
	}
	return times(list, []*big.Int{number})
}

// height: the greatest coefficient, without its sign.
func height(list []*big.Int) *big.Int {
	most := new(big.Int)
	for _, n := range list {
		if n.CmpAbs(most) > 0 {
			most = new(big.Int).Abs(n)
		}
	}
	return most
}

// P5: about the bounds of the quotient.
func TestDivideBig(t *testing.T) {
	d := dice(7)
	seen := [8]int{}
	for range 2000 {
		degree := d.below(6)
		n := roots(&d, degree)
		m := greatest(&d, times(n, roots(&d, 10-degree)))
		seen[checkDivide(t, m, n)]++
	}
	if seen[api.OK] < 100 || seen[api.ErrBig] < 100 || seen[api.OK]+seen[api.ErrBig] != 2000 {
		t.Errorf("the test has seen too little: %v", seen)
	}
}
