package poly_test

import (
	"slices"
	"testing"

	"factor/poly"
)

// P1: polynomials that calls have given stay as they are, whatever is called
// of them, be it with themselves, and of what comes of them.
func TestGivenStays(t *testing.T) {
	given := []*poly.Poly{}
	texts := []string{}
	for _, s := range []string{"0", "1", "-7", "x", "-x + 1", "3*x^2 - 2*x + 5", "x^5 - 1", "999999999999*x^10 - 999999999999", "x^10"} {
		given = append(given, of(t, s))
		texts = append(texts, s)
	}
	for round := range 2 {
		count := len(given)
		for i := range count {
			given[i].Factor()
			for k := range count {
				for call := range 6 {
					x := anyCall(given[i], given[k], call, k%7-3)
					if x != nil && round == 0 && !slices.Contains(texts, x.Text()) {
						given = append(given, x)
						texts = append(texts, x.Text())
					}
				}
			}
		}
		for i := range given {
			if given[i].Text() != texts[i] {
				t.Errorf("P1: %s has become %s", texts[i], given[i].Text())
			}
		}
	}
}

func anyCall(a *poly.Poly, b *poly.Poly, call int, s int) *poly.Poly {
	var x *poly.Poly
	switch call {
	case 0:
		x, _ = poly.Add(a, b)
	case 1:
		x, _ = poly.Sub(a, b)
	case 2:
		x, _ = poly.Mul(a, b)
	case 3:
		x, _ = a.Shift(s)
	case 4:
		x, _ = poly.Divide(a, b)
	case 5:
		x, _ = poly.Gcd(a, b)
	}
	return x
}
