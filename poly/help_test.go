package poly_test

import (
	"math/big"
	"strconv"
	"strings"
	"testing"

	"factor/api"
	"factor/poly"
)

// of: the polynomial of a text.
func of(t *testing.T, s string) *poly.Poly {
	t.Helper()
	p, e, at := poly.Read(s)
	if p == nil || e != api.OK || at != 0 {
		t.Fatalf("Read(%q) = %v, %d, %d", s, p, e, at)
	}
	return p
}

// built: the polynomial of these coefficients, added up term by term, as its
// text may be longer than Read takes.
func built(t *testing.T, numbers []*big.Int) *poly.Poly {
	t.Helper()
	p := of(t, "0")
	for k, n := range numbers {
		next, e := poly.Add(p, of(t, n.String()+"*x^"+strconv.Itoa(k)))
		if next == nil || e != api.OK {
			t.Fatalf("Add of %s and %s*x^%d = %v, %d", p.Text(), n, k, next, e)
		}
		p = next
	}
	return p
}

// dice: numbers that look like chance, and are the same in every run.
type dice uint64

func (d *dice) below(n int) int {
	*d = *d*6364136223846793005 + 1442695040888963407
	return int(uint64(*d)>>33) % n
}

// list: the coefficients of a polynomial of some degree, some of them 0, the
// others of at most so many digits.
func (d *dice) list(degree int, digits int) []*big.Int {
	numbers := []*big.Int{}
	for range degree + 1 {
		n := new(big.Int)
		if d.below(4) > 0 {
			for range 1 + d.below(digits) {
				n.Mul(n, big.NewInt(10))
				n.Add(n, big.NewInt(int64(d.below(10))))
			}
		}
		if d.below(2) > 0 {
			n.Neg(n)
		}
		numbers = append(numbers, n)
	}
	return numbers
}

// within: whether the polynomial of these coefficients is within the bounds.
func within(numbers []*big.Int) bool {
	for k, n := range numbers {
		if n.Sign() != 0 && (k > api.MaxDeg || len(new(big.Int).Abs(n).String()) > api.MaxDigits) {
			return false
		}
	}
	return true
}

// textOf: the text that P3 asks for, built from the clumsy one by replacing.
func textOf(numbers []*big.Int) string {
	s := ""
	for k := len(numbers) - 1; k >= 0; k-- {
		if numbers[k].Sign() != 0 {
			s += "+" + numbers[k].String() + "*x^" + strconv.Itoa(k) + ";"
		}
	}
	if s == "" {
		return "0"
	}
	s = strings.ReplaceAll(s, "+-", "-")
	s = strings.ReplaceAll(s, "*x^0;", ";")
	s = strings.ReplaceAll(s, "x^1;", "x;")
	s = strings.ReplaceAll(s, "+1*x", "+x")
	s = strings.ReplaceAll(s, "-1*x", "-x")
	s = strings.ReplaceAll(s, ";+", " + ")
	s = strings.ReplaceAll(s, ";-", " - ")
	return strings.TrimPrefix(strings.TrimSuffix(s, ";"), "+")
}

// checkCall: an answer must be the polynomial wanted, or ErrBig and nil.
func checkCall(t *testing.T, call string, got *poly.Poly, e api.Errno, want []*big.Int) {
	t.Helper()
	if !within(want) {
		if got != nil || e != api.ErrBig {
			t.Errorf("%s = %v, %d, want ErrBig", call, got, e)
		}
		return
	}
	if got == nil || e != api.OK {
		t.Errorf("%s = %v, %d, want %s", call, got, e, textOf(want))
	} else if got.Text() != textOf(want) {
		t.Errorf("%s = %s, want %s", call, got.Text(), textOf(want))
	}
}
