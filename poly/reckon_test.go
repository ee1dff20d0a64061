package poly_test

import (
	"fmt"
	"math"
	"math/big"
	"testing"

	"factor/api"
	"factor/poly"
)

// P4: what the document names, and edges about the bounds ("" is ErrBig).
func TestReckonNamed(t *testing.T) {
	for _, c := range []struct{ a, b, sum, less, product string }{
		{"x + 1", "x - 1", "2*x", "2", "x^2 - 1"},
		{"x^6", "x^5", "x^6 + x^5", "x^6 - x^5", ""},
		{"0", "0", "0", "0", "0"},
		{"0", "x^10", "x^10", "-x^10", "0"},
		{"x^10", "0", "x^10", "x^10", "0"},
		{"x^10 + 1", "x^10", "2*x^10 + 1", "1", ""},
		{"x^10", "-1", "x^10 - 1", "x^10 + 1", "-x^10"},
		{"x^5", "x^5", "2*x^5", "0", "x^10"},
		{"999999999999", "1", "", "999999999998", "999999999999"},
		{"-999999999999", "1", "-999999999998", "", "-999999999999"},
		{"999999999999*x^10", "-999999999999*x^10", "0", "", ""},
		{"500000000000", "500000000000", "", "0", ""},
		{"1000000", "1000000", "2000000", "0", ""},
		{"999999", "1000001", "2000000", "-2", "999999999999"},
		{"999999999999*x + 999999999999", "999999999999*x - 999999999999", "", "", ""},
		// The middle of the product cancels out, its ends do not.
		{"1000000*x + 1", "1000000*x - 1", "2000000*x", "2", ""},
		{"x + 1000000", "x - 999999", "2*x + 1", "1999999", "x^2 + x - 999999000000"},
	} {
		a, b := of(t, c.a), of(t, c.b)
		x, e := poly.Add(a, b)
		checkNamed(t, "P4: Add of "+c.a+" and "+c.b, x, e, c.sum)
		x, e = poly.Sub(a, b)
		checkNamed(t, "P4: Sub of "+c.a+" and "+c.b, x, e, c.less)
		x, e = poly.Mul(a, b)
		checkNamed(t, "P4: Mul of "+c.a+" and "+c.b, x, e, c.product)
	}
}

func checkNamed(t *testing.T, call string, got *poly.Poly, e api.Errno, want string) {
	t.Helper()
	if want == "" {
		if got != nil || e != api.ErrBig {
			t.Errorf("%s = %v, %d, want ErrBig", call, got, e)
		}
		return
	}
	if got == nil || e != api.OK {
		t.Errorf("%s = %v, %d, want %s", call, got, e, want)
	} else if got.Text() != want {
		t.Errorf("%s = %s, want %s", call, got.Text(), want)
	}
}

// P4: against numbers of the library.
func TestReckonMany(t *testing.T) {
	d := dice(4)
	for i := range 3000 {
		m := d.list(d.below(11), 1+i%12)
		n := d.list(d.below(11), 1+i%7)
		a, b := built(t, m), built(t, n)
		names := a.Text() + " and " + b.Text()
		x, e := poly.Add(a, b)
		checkCall(t, "P4: Add of "+names, x, e, plus(m, n, 1))
		x, e = poly.Sub(a, b)
		checkCall(t, "P4: Sub of "+names, x, e, plus(m, n, -1))
		x, e = poly.Mul(a, b)
		checkCall(t, "P4: Mul of "+names, x, e, times(m, n))
	}
}

func plus(m []*big.Int, n []*big.Int, sign int64) []*big.Int {
	total := times(m, []*big.Int{big.NewInt(1)})
	for k, c := range n {
		if k >= len(total) {
			total = append(total, new(big.Int))
		}
		total[k].Add(total[k], new(big.Int).Mul(c, big.NewInt(sign)))
	}
	return total
}

func times(m []*big.Int, n []*big.Int) []*big.Int {
	total := []*big.Int{}
	for range len(m) + len(n) {
		total = append(total, new(big.Int))
	}
	for i := range m {
		for k := range n {
			total[i+k].Add(total[i+k], new(big.Int).Mul(m[i], n[k]))
		}
	}
	return total
}

// P4: Shift, with ErrArg named ahead of ErrBig.
func TestShiftNamed(t *testing.T) {
	for _, c := range []struct {
		a    string
		s    int
		want string
	}{
		{"x^2 - 1", 2, "x^2 + 4*x + 3"}, {"x^2 + 4*x + 3", -2, "x^2 - 1"},
		{"x", 99, "x + 99"}, {"x", -99, "x - 99"}, {"0", 99, "0"}, {"-5", -99, "-5"},
		{"x^10", 0, "x^10"}, {"x^10 - 10*x^9", 1, "x^10 - 45*x^8 - 240*x^7 - 630*x^6 - 1008*x^5 - 1050*x^4 - 720*x^3 - 315*x^2 - 80*x - 9"},
		{"-x^10", 0, "-x^10"}, {"x^10", 99, ""}, {"x^10", -99, ""}, {"999999999999*x", 1, "999999999999*x + 999999999999"},
		{"999999999999*x", 2, ""}, {"999999999999*x + 1", 1, ""}, {"999999999999*x + 999999999999", -1, "999999999999*x"},
		// What is on the way is past the bounds, what comes out is not.
		{"10000000000*x - 900000000000", 99, "10000000000*x + 90000000000"},
		{"x^7", 99, ""},
	} {
		x, e := of(t, c.a).Shift(c.s)
		checkNamed(t, fmt.Sprintf("P4: Shift of %s by %d", c.a, c.s), x, e, c.want)
	}
	for _, a := range []string{"0", "7", "x", "999999999999*x^10"} {
		for _, s := range []int{100, -100, 1000, 1 << 32, 1<<32 + 1, math.MaxInt, math.MinInt} {
			if x, e := of(t, a).Shift(s); x != nil || e != api.ErrArg {
				t.Errorf("P4: Shift of %s by %d = %v, %d, want ErrArg", a, s, x, e)
			}
		}
	}
}

// P4: every shift, against powers of x + s multiplied out.
func TestShiftMany(t *testing.T) {
	d := dice(5)
	for i := range 2000 {
		s := i%199 - 99
		m := d.list(d.below(11), 1+d.below(12))
		power := []*big.Int{big.NewInt(1)}
		want := []*big.Int{}
		for _, c := range m {
			want = plus(want, times(power, []*big.Int{c}), 1)
			power = times(power, []*big.Int{big.NewInt(int64(s)), big.NewInt(1)})
		}
		x, e := built(t, m).Shift(s)
		checkCall(t, fmt.Sprintf("P4: Shift of %s by %d", textOf(m), s), x, e, want)
	}
}
