package poly_test

import (
	"testing"

	"factor/api"
	"factor/poly"
)

// P3: every form of a term, first and later.
func TestText(t *testing.T) {
	for _, c := range []struct{ s, want string }{
		{"0", "0"}, {"1", "1"}, {"-1", "-1"}, {"10", "10"}, {"-10", "-10"},
		{"x", "x"}, {"-x", "-x"}, {"2*x", "2*x"}, {"-2*x", "-2*x"}, {"10*x", "10*x"}, {"-11*x", "-11*x"},
		{"x^2", "x^2"}, {"-x^2", "-x^2"}, {"1*x^10", "x^10"}, {"-7*x^10", "-7*x^10"},
		{"1+x", "x + 1"}, {"1-x", "-x + 1"}, {"-1+x", "x - 1"}, {"-1-x", "-x - 1"},
		{"5 - 1*x + 3*x^2 - 1*x^3", "-x^3 + 3*x^2 - x + 5"},
		{"x^9 + x^10 + x^1", "x^10 + x^9 + x"},
		{"1000000000*x^2 - 1000000001", "1000000000*x^2 - 1000000001"},
		{"100000000000*x + 999999999", "100000000000*x + 999999999"},
		{"-00100*x^003 - 001", "-100*x^3 - 1"}, {"x^10 - 0*x^9 + 0*x - 1", "x^10 - 1"},
	} {
		if got := of(t, c.s).Text(); got != c.want {
			t.Errorf("P3: of %q: Text() = %q, want %q", c.s, got, c.want)
		}
	}
}

// P3: polynomials of every degree; and the text is read as the same polynomial.
func TestTextAndBack(t *testing.T) {
	d := dice(3)
	for i := range 3000 {
		numbers := d.list(i%11, 1+i%12)
		want := textOf(numbers)
		if got := built(t, numbers).Text(); got != want {
			t.Errorf("P3: Text() = %q, want %q", got, want)
		}
		if len(want) <= api.MaxText {
			p, e, _ := poly.Read(want)
			checkCall(t, "P3: Read of "+want, p, e, numbers)
		}
	}
}
