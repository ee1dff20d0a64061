package poly_test

import (
	"math/big"
	"regexp"
	"strconv"
	"strings"
	"testing"

	"factor/api"
	"factor/poly"
)

// P2: what the document names, and edges about it.
func TestReadGood(t *testing.T) {
	long := strings.Repeat("9", 90)
	for _, c := range []struct{ s, want string }{
		{" -3*x + x^2-0 + 007 ", "x^2 - 3*x + 7"},
		{"x^99 - x^99 + 1", "1"},
		{"0", "0"}, {"-0", "0"}, {"000", "0"}, {"x-x", "0"}, {"0*x^99", "0"},
		{"x", "x"}, {"-x", "-x"}, {" - x", "-x"}, {"1*x", "x"}, {"0001*x^0001", "x"},
		{"x^0", "1"}, {"3*x^0", "3"}, {"x^00 - 1", "0"},
		{"x ^ 2", "x^2"}, {"2 * x", "2*x"}, {"  2  *  x  ^  3  -  4  ", "2*x^3 - 4"},
		{"x+1", "x + 1"}, {"x-1", "x - 1"}, {"1+x+x^2", "x^2 + x + 1"},
		{"x^10", "x^10"}, {"x^0000000010", "x^10"},
		{"x^11 + x - x^11", "x"}, {"x^11 + x^011 - 2*x^0011", "0"},
		{"999999999999", "999999999999"}, {"-999999999999*x^10", "-999999999999*x^10"},
		{"0000000000000000999999999999", "999999999999"},
		{"999999999999 + 1 - 1", "999999999999"}, {"1000000000000 - 1", "999999999999"},
		{long + " - " + long, "0"}, {long + "*x - " + long + "*x + 5", "5"},
		{"x^" + long + " - x^" + long, "0"}, {"0*x^" + long + " + x", "x"},
		{strings.Repeat("x+", 99) + "x ", "100*x"}, {"-x" + strings.Repeat("-x", 99), "-100*x"},
		{strings.Repeat(" ", 199) + "x", "x"}, {"x" + strings.Repeat(" ", 199), "x"},
		{strings.Repeat("0", 200), "0"},
	} {
		p, e, at := poly.Read(c.s)
		if p == nil || e != api.OK || at != 0 {
			t.Errorf("P2: Read(%q) = %v, %d, %d", c.s, p, e, at)
		} else if p.Text() != c.want {
			t.Errorf("P2: Read(%q) is %s, want %s", c.s, p.Text(), c.want)
		}
	}
}

// P2: the errors, their order and the place.
func TestReadBad(t *testing.T) {
	for _, c := range []struct {
		s  string
		e  api.Errno
		at int
	}{
		{"2*x*3", api.ErrSyntax, 3}, {"3x", api.ErrSyntax, 1}, {"x^", api.ErrSyntax, 2},
		{"", api.ErrSyntax, 0}, {"x + ", api.ErrSyntax, 4}, {"--x", api.ErrSyntax, 1},
		{"1 2", api.ErrSyntax, 2}, {" ", api.ErrSyntax, 1}, {"-", api.ErrSyntax, 1},
		{"- ", api.ErrSyntax, 2}, {"+x", api.ErrSyntax, 0}, {"  + x", api.ErrSyntax, 2},
		{"x^x", api.ErrSyntax, 2}, {"x^-1", api.ErrSyntax, 2}, {"x^ +1", api.ErrSyntax, 3},
		{"x*2", api.ErrSyntax, 1}, {"x^2*3", api.ErrSyntax, 3}, {"x^2^3", api.ErrSyntax, 3},
		{"2^3", api.ErrSyntax, 1}, {"2*", api.ErrSyntax, 2}, {"2* ", api.ErrSyntax, 3},
		{"2*3", api.ErrSyntax, 2}, {"2**x", api.ErrSyntax, 2}, {"2*-x", api.ErrSyntax, 2},
		{"x2", api.ErrSyntax, 1}, {"xx", api.ErrSyntax, 1}, {"x   x", api.ErrSyntax, 4},
		{"x^1 0", api.ErrSyntax, 4}, {"X", api.ErrSyntax, 0}, {"(x)", api.ErrSyntax, 0},
		{"x +- 1", api.ErrSyntax, 3}, {"1.5", api.ErrSyntax, 1}, {"x\n", api.ErrSyntax, 1},
		{"\tx", api.ErrSyntax, 0}, {"x\x00", api.ErrSyntax, 1}, {"\xff", api.ErrSyntax, 0},
		{"x + \u0663", api.ErrSyntax, 4}, {"x\u00a0+ 1", api.ErrSyntax, 1}, {"1/", api.ErrSyntax, 1},
		{"1:", api.ErrSyntax, 1}, {strings.Repeat(" ", 200), api.ErrSyntax, 200},
		// ErrSyntax is named ahead of ErrBig, ErrLong ahead of both.
		{"x^11 + y", api.ErrSyntax, 7}, {"1000000000000 +", api.ErrSyntax, 15},
		{strings.Repeat("y", 201), api.ErrLong, 0}, {"x^11" + strings.Repeat(" ", 197), api.ErrLong, 0},
		{strings.Repeat("0", 201), api.ErrLong, 0}, {strings.Repeat("x", 3000000), api.ErrLong, 0},
		{"x^11", api.ErrBig, 0}, {"-x^11", api.ErrBig, 0}, {"x^011 + x", api.ErrBig, 0},
		{"1000000000000", api.ErrBig, 0}, {"-1000000000000", api.ErrBig, 0},
		{"999999999999*x^2 + x^2", api.ErrBig, 0}, {"-999999999999 - 1", api.ErrBig, 0},
		{"x^11 - 2*x^11", api.ErrBig, 0}, {"x^18446744073709551617", api.ErrBig, 0},
		{"x^4294967296", api.ErrBig, 0}, {"18446744073709551616", api.ErrBig, 0},
		{"x^11 - x^12", api.ErrBig, 0}, {strings.Repeat("9", 200), api.ErrBig, 0},
	} {
		if p, e, at := poly.Read(c.s); p != nil || e != c.e || at != c.at {
			t.Errorf("P2: Read(%.40q) = %v, %d, %d, want %d, %d", c.s, p, e, at, c.e, c.at)
		}
	}
}

const term = `(([0-9]+ *\* *)?x( *\^ *[0-9]+)?|[0-9]+)`

// right: the texts that P2 allows, as one pattern.
var right = regexp.MustCompile(`^ *(- *)?` + term + `( *[-+] *` + term + `)* *$`)

// begins: whether a text of P2 may begin so: then one of three ends completes it.
func begins(s string) bool {
	return right.MatchString(s) || right.MatchString(s+"x") || right.MatchString(s+"1")
}

// place: the first byte that cannot stand there, or the length.
func place(s string) int {
	for i := range len(s) {
		if !begins(s[:i+1]) {
			return i
		}
	}
	return len(s)
}

func checkSyntax(t *testing.T, s string) {
	p, e, at := poly.Read(s)
	if right.MatchString(s) {
		if e == api.ErrSyntax || at != 0 || (p == nil) != (e != api.OK) {
			t.Errorf("P2: Read(%q) = %v, %d, %d", s, p, e, at)
		}
		return
	}
	if p != nil || e != api.ErrSyntax || at != place(s) {
		t.Errorf("P2: Read(%q) = %v, %d, %d, want ErrSyntax at %d", s, p, e, at, place(s))
	}
}

// P1, P2: every short text of the words, and of a byte that is none.
func TestReadEveryShortText(t *testing.T) {
	texts := []string{""}
	for range 5 {
		longer := []string{}
		for _, s := range texts {
			checkSyntax(t, s)
			for _, b := range "x^*+- 2y" {
				longer = append(longer, s+string(b))
			}
		}
		texts = longer
	}
	for b := range 256 {
		for _, s := range []string{"", "x", "2", "x^", "x^3", "2*", "x+", "x "} {
			checkSyntax(t, s+string([]byte{byte(b)}))
		}
	}
}

// P1, P2: long texts that are nearly right.
func TestReadLongTexts(t *testing.T) {
	d := dice(1)
	for range 3000 {
		s := ""
		for range d.below(60) {
			s += []string{"x", "^", "*", "+", "-", " ", "2", "x^2", "3*x", " + ", " - 1", "0"}[d.below(12)]
		}
		checkSyntax(t, s)
	}
}

// P2: terms in any order, split up, with blanks and noughts.
func TestReadSums(t *testing.T) {
	d := dice(2)
	for range 3000 {
		numbers := []*big.Int{}
		for range 14 {
			numbers = append(numbers, new(big.Int))
		}
		s := strings.Repeat(" ", d.below(2))
		for i := range 1 + d.below(6) {
			n := new(big.Int).SetInt64(int64(d.below(1000)))
			if d.below(3) == 0 {
				n.Mul(n, big.NewInt(1000000001))
			}
			k := d.below(12)
			written := strings.Repeat("0", d.below(3)) + n.String() + " *x^" + strings.Repeat("0", d.below(3)) + strconv.Itoa(k)
			if d.below(2) == 0 {
				n.Neg(n)
				written = "- " + written
			} else if i > 0 {
				written = "+" + written
			}
			numbers[k].Add(numbers[k], n)
			s += written
		}
		p, e, at := poly.Read(s)
		if at != 0 {
			t.Errorf("P2: Read(%q): place %d", s, at)
		}
		checkCall(t, "P2: Read of "+s, p, e, numbers)
	}
}
