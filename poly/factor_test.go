package poly_test

import (
	"math/big"
	"slices"
	"strconv"
	"strings"
	"testing"

	"factor/api"
	"factor/poly"
)

// answer: what Factor has answered, on one line.
func answer(n string, l []api.Part, e api.Errno) string {
	s := n
	if e != api.OK {
		s += " error " + strconv.Itoa(int(e))
	}
	for _, part := range l {
		s += " | " + part.P
		if part.E != 1 {
			s += " : " + strconv.Itoa(part.E)
		}
	}
	return s
}

// checkFactor: the answer must be the one wanted.
func checkFactor(t *testing.T, p *poly.Poly, want string) {
	t.Helper()
	n, l, e := p.Factor()
	if got := answer(n, l, e); got != want {
		t.Errorf("P7: Factor of %s = %s, want %s", p.Text(), got, want)
	}
}

// P7: what the document names, and edges.
func TestFactorNamed(t *testing.T) {
	for _, c := range []struct{ f, want string }{
		{"-6*x + 4", "-2 | 3*x - 2"}, {"7", "7"}, {"0", " error 4"},
		{"4*x^2 + 4*x + 1", "1 | 2*x + 1 : 2"}, {"x^4 + 4", "1 | x^2 - 2*x + 2 | x^2 + 2*x + 2"}, {"x^4 + 1", "1 | x^4 + 1"},
		{"3*x^10 - 3*x^4", "3 | x - 1 | x : 4 | x + 1 | x^2 - x + 1 | x^2 + x + 1"},
		{"x^10 + x^5 + 1", "1 | x^2 + x + 1 | x^8 - x^7 + x^5 - x^4 + x^3 - x + 1"},
		{"x^8 - 40*x^6 + 352*x^4 - 960*x^2 + 576", "1 | x^8 - 40*x^6 + 352*x^4 - 960*x^2 + 576"},
		{"6*x^6 - 5*x^4 + 5*x^2 - 6", "1 | x - 1 | x + 1 | 6*x^4 + x^2 + 6"},
		{"999999999989*x^2 - 999999999989", "999999999989 | x - 1 | x + 1"},
		{"x^9 - 1", "1 | x - 1 | x^2 + x + 1 | x^6 + x^3 + 1"},
		// Numbers: the content is all.
		{"1", "1"}, {"-1", "-1"}, {"-12", "-12"}, {nines, nines}, {"-" + nines, "-" + nines},
		// Powers of x, and contents above and below 0.
		{"x", "1 | x"}, {"-x", "-1 | x"}, {"x^10", "1 | x : 10"}, {"-7*x^10", "-7 | x : 10"}, {nines + "*x", nines + " | x"},
		{"-4*x^2 + 6", "-2 | 2*x^2 - 3"}, {"4*x^2 - 6", "2 | 2*x^2 - 3"}, {"-2*x^3 + 2*x^2", "-2 | x - 1 | x : 2"},
		{"-x^2 + 1", "-1 | x - 1 | x + 1"}, {"6*x^2 + 12", "6 | x^2 + 2"}, {"-6 - 12*x", "-6 | 2*x + 1"},
		// Factors that stand more than once.
		{"x^2 + 2*x + 1", "1 | x + 1 : 2"}, {"x^4 + 2*x^2 + 1", "1 | x^2 + 1 : 2"}, {"-8*x^3 + 12*x^2 - 6*x + 1", "-1 | 2*x - 1 : 3"},
		{"x^10 + 5*x^8 + 10*x^6 + 10*x^4 + 5*x^2 + 1", "1 | x^2 + 1 : 5"}, {"x^10 - 2*x^5 + 1", "1 | x - 1 : 2 | x^4 + x^3 + x^2 + x + 1 : 2"},
		{"x^5 - x^4 - 2*x^3 + 2*x^2 + x - 1", "1 | x - 1 : 3 | x + 1 : 2"},
		// The order, of one degree and of several.
		{"x^3 - 6*x^2 + 11*x - 6", "1 | x - 3 | x - 2 | x - 1"}, {"6*x^2 + 5*x + 1", "1 | 2*x + 1 | 3*x + 1"},
		{"2*x^2 - x", "1 | x | 2*x - 1"}, {"2*x^2 - 19*x - 10", "1 | x - 10 | 2*x + 1"}, {"x^4 - 5*x^2 + 6", "1 | x^2 - 3 | x^2 - 2"},
		{"x^4 + x^2 + 1", "1 | x^2 - x + 1 | x^2 + x + 1"}, {"x^4 - x^3 + 2*x^2 + 2", "1 | x^4 - x^3 + 2*x^2 + 2"},
		{"x^4 - x^3 + 7*x^2 - 6*x + 6", "1 | x^2 - x + 1 | x^2 + 6"}, {"x^3 + 100*x^2 + x + 100", "1 | x + 100 | x^2 + 1"},
		{"x^5 - 5*x^3 + 4*x", "1 | x - 2 | x - 1 | x | x + 1 | x + 2"},
		// Leading coefficients other than 1.
		{"9*x^2 - 1", "1 | 3*x - 1 | 3*x + 1"}, {"4*x^4 + 1", "1 | 2*x^2 - 2*x + 1 | 2*x^2 + 2*x + 1"}, {"2*x^2 - 3", "1 | 2*x^2 - 3"},
		{"6*x^4 - 13*x^2 + 6", "1 | 2*x^2 - 3 | 3*x^2 - 2"}, {"30030*x^2 + 353*x + 1", "1 | 143*x + 1 | 210*x + 1"},
		// Prime ones that fall apart modulo every prime number.
		{"x^4 - 10*x^2 + 1", "1 | x^4 - 10*x^2 + 1"}, {"x^8 + 1", "1 | x^8 + 1"}, {"x^8 - x^4 + 1", "1 | x^8 - x^4 + 1"},
		{"x^8 - x^6 + x^4 - x^2 + 1", "1 | x^8 - x^6 + x^4 - x^2 + 1"},
		{"x^10 + x^9 + x^8 + x^7 + x^6 + x^5 + x^4 + x^3 + x^2 + x + 1", "1 | x^10 + x^9 + x^8 + x^7 + x^6 + x^5 + x^4 + x^3 + x^2 + x + 1"},
		// Coefficients of MaxDigits digits.
		{nines + "*x^10 - " + nines, nines + " | x - 1 | x + 1 | x^4 - x^3 + x^2 - x + 1 | x^4 + x^3 + x^2 + x + 1"},
		{"999998000001*x^2 - 1", "1 | 999999*x - 1 | 999999*x + 1"}, {"x^2 - 999998000001", "1 | x - 999999 | x + 999999"},
		{"999998000001*x^2 + 1999998*x + 1", "1 | 999999*x + 1 : 2"}, {nines + "*x^2 + 999999999998*x - 1", "1 | x + 1 | " + nines + "*x - 1"},
		{nines + "*x^10 - 999999999998", "1 | " + nines + "*x^10 - 999999999998"}, {"x^10 - " + nines, "1 | x^10 - " + nines},
		{"x^2 - " + nines + "*x", "1 | x - " + nines + " | x"}, {"-x^2 + " + nines, "-1 | x^2 - " + nines},
		// A factor with more digits.
		{nines + "*x^3 - 999999999998*x^2 - 999999999998*x + " + nines, "1 | x + 1 | 999999999999*x^2 - 1999999999997*x + 999999999999"},
		{"-" + nines + "*x^3 + 999999999998*x^2 + 999999999998*x - " + nines, "-1 | x + 1 | 999999999999*x^2 - 1999999999997*x + 999999999999"},
		{nines + "*x^3 + 999999999998*x^2 - 999999999998*x - " + nines, "1 | x - 1 | 999999999999*x^2 + 1999999999997*x + 999999999999"},
		// Modulo 31 and lesser primes it is a square.
		{"x^2 - 200560490130*x", "1 | x - 200560490130 | x"}, {"x^2 - 200560490130", "1 | x^2 - 200560490130"},
		// Modulo 61 and lesser primes it loses its degree, or a power of x divides it.
		{"200560490130*x^10 + 807803778337*x^5 + 584803025179", "1 | 30030*x^5 + 92537 | 6678671*x^5 + 6319667"},
		{"200560490130*x^10 + 584803025179*x + 584803025179", "1 | 200560490130*x^10 + 584803025179*x + 584803025179"},
	} {
		checkFactor(t, of(t, c.f), c.want)
	}
}

// known: a factor of a polynomial that a test has built, and how often.
type known struct {
	factor []*big.Int
	count  int
}

// numbers: the list as great numbers.
func numbers(list ...int64) []*big.Int {
	great := []*big.Int{}
	for _, n := range list {
		great = append(great, big.NewInt(n))
	}
	return great
}

// byOrder: the order that P7 asks for.
func byOrder(a known, b known) int {
	if len(a.factor) != len(b.factor) {
		return len(a.factor) - len(b.factor)
	}
	for k := len(a.factor) - 1; k >= 0; k-- {
		if c := a.factor[k].Cmp(b.factor[k]); c != 0 {
			return c
		}
	}
	return 0
}

// checkProduct: Factor must find the prime factors, which the polynomial has been
// built of, and its content; it answers false if that is not within the bounds.
func checkProduct(t *testing.T, content *big.Int, list []known) bool {
	t.Helper()
	all := []*big.Int{content}
	merged := []known{}
	for _, part := range list {
		for range part.count {
			all = times(all, part.factor)
		}
		at := slices.IndexFunc(merged, func(k known) bool { return byOrder(k, part) == 0 })
		if at < 0 {
			merged = append(merged, part)
		} else {
			merged[at].count += part.count
		}
	}
	if !within(all) {
		return false
	}
	slices.SortFunc(merged, byOrder)
	parts := []api.Part{}
	for _, part := range merged {
		parts = append(parts, api.Part{P: textOf(part.factor), E: part.count})
	}
	checkFactor(t, built(t, all), answer(content.String(), parts, api.OK))
	return true
}

// line: a prime polynomial of degree 1.
func line(d *dice, most int) []*big.Int {
	for {
		list := numbers(int64(d.below(2*most+1)-most), int64(1+d.below(most)))
		if contentOf(list).IsInt64() && contentOf(list).Int64() == 1 {
			return list
		}
	}
}

// bow: a prime polynomial of degree 2: one without a root among the fractions.
func bow(d *dice, most int) []*big.Int {
	for {
		list := numbers(int64(d.below(2*most+1)-most), int64(d.below(2*most+1)-most), int64(1+d.below(most)))
		square := new(big.Int).Mul(list[1], list[1])
		four := new(big.Int).Mul(big.NewInt(4), new(big.Int).Mul(list[0], list[2]))
		under := square.Sub(square, four)
		root := new(big.Int).Sqrt(new(big.Int).Abs(under))
		rational := under.Sign() >= 0 && root.Mul(root, root).Cmp(under) == 0
		if contentOf(list).Cmp(big.NewInt(1)) == 0 && !rational {
			return list
		}
	}
}

// tall: a prime polynomial of some degree, by Eisenstein's test: a prime number
// divides all coefficients but the leading one, and the last of them just once.
func tall(d *dice, degree int, most int) []*big.Int {
	for {
		q := []int64{2, 3, 5, 7, 11, 13}[d.below(6)]
		list := []int64{q * int64(1+d.below(most))}
		for range degree - 1 {
			list = append(list, q*int64(d.below(2*most+1)-most)*int64(d.below(2)))
		}
		list = append(list, int64(1+d.below(most)))
		if d.below(2) == 0 {
			list[0] = -list[0]
		}
		great := numbers(list...)
		if list[degree]%q != 0 && list[0]%(q*q) != 0 && contentOf(great).Cmp(big.NewInt(1)) == 0 {
			return great
		}
	}
}

// small: what is not beyond the bounds on the whole.
func small(d *dice) int {
	return []int{1, 2, 3, 5, 10, 30, 100, 1000, 100000}[d.below(9)]
}

// P7: products of factors of degree 1 and 2.
func TestFactorLow(t *testing.T) {
	d := dice(10)
	seen := 0
	for range 3000 {
		list := []known{}
		most := small(&d)
		for left := 1 + d.below(10); left > 0; {
			part := known{line(&d, most), 1}
			if d.below(2) == 0 {
				part.factor = bow(&d, most)
			}
			if d.below(4) == 0 {
				part.count = 1 + d.below(4)
			}
			left -= (len(part.factor) - 1) * part.count
			list = append(list, part)
		}
		content := big.NewInt(int64(1 + d.below(small(&d))))
		if d.below(2) == 0 {
			content.Neg(content)
		}
		if checkProduct(t, content, list) {
			seen++
		}
	}
	if seen < 1000 {
		t.Errorf("the test has seen too little: %d", seen)
	}
}

// P7: products with factors of every degree.
func TestFactorHigh(t *testing.T) {
	d := dice(11)
	seen := [11]int{}
	for range 3000 {
		list := []known{}
		most := small(&d)
		for left := 4 + d.below(7); left > 0; {
			degree := 1 + d.below(left)
			list = append(list, known{tall(&d, degree, most), 1})
			left -= degree
		}
		if checkProduct(t, big.NewInt(int64(1+d.below(3))), list) {
			for _, part := range list {
				seen[len(part.factor)-1]++
			}
		}
	}
	if slices.Min(seen[1:]) < 20 {
		t.Errorf("the test has seen too little: %v", seen)
	}
}

// P7: each product of a few polynomials whose roots are roots of 1. Modulo small
// primes many of them fall together.
func TestFactorRoots(t *testing.T) {
	base := [][]*big.Int{
		numbers(-1, 1), numbers(0, 1), numbers(1, 1), numbers(1, -1, 1), numbers(1, 0, 1), numbers(1, 1, 1),
		numbers(1, -1, 1, -1, 1), numbers(1, 0, -1, 0, 1), numbers(1, 0, 0, 0, 1), numbers(1, 1, 1, 1, 1),
		numbers(1, 0, 0, -1, 0, 0, 1), numbers(1, 0, 0, 1, 0, 0, 1), numbers(1, 1, 1, 1, 1, 1, 1),
	}
	seen := 0
	for chosen := range 1 << len(base) {
		list := []known{}
		degree := 0
		for i, factor := range base {
			if chosen>>i&1 == 1 {
				list = append(list, known{factor, 1})
				degree += len(factor) - 1
			}
		}
		if degree <= api.MaxDeg && checkProduct(t, big.NewInt(-1), list) {
			seen++
		}
	}
	if seen < 200 {
		t.Errorf("the test has seen too little: %d", seen)
	}
}

// exactly: the quotient of two lists without noughts at the end, and whether there
// is one, for numbers so small that nothing overflows.
func exactly(a []int64, b []int64) ([]int64, bool) {
	rest := slices.Clone(a)
	quotient := make([]int64, max(0, len(a)-len(b)+1))
	for k := len(quotient) - 1; k >= 0; k-- {
		top := rest[k+len(b)-1]
		if top%b[len(b)-1] != 0 {
			return nil, false
		}
		quotient[k] = top / b[len(b)-1]
		for i, c := range b {
			rest[k+i] -= c * quotient[k]
		}
	}
	return quotient, !slices.ContainsFunc(rest, func(c int64) bool { return c != 0 })
}

// tried: all polynomials of degree 1 to most with a leading coefficient from 1 to
// lead and others up to height, those of lesser degrees first. Those that are not
// primitive are left out.
func tried(most int, lead int64, height int64) [][]int64 {
	all := [][]int64{}
	lists := [][]int64{{}}
	for range most {
		longer := [][]int64{}
		for _, list := range lists {
			for c := -height; c <= height; c++ {
				longer = append(longer, append(slices.Clone(list), c))
			}
		}
		lists = longer
		for _, list := range lists {
			for c := int64(1); c <= lead; c++ {
				factor := append(slices.Clone(list), c)
				if contentOf(numbers(factor...)).Int64() == 1 {
					all = append(all, factor)
				}
			}
		}
	}
	return all
}

// bruteFactors: the factors of a primitive polynomial, by trying them all: no
// factor of half its degree has coefficients beyond those tried.
func bruteFactors(f []int64, factors [][]int64) []known {
	list := []known{}
	for _, factor := range factors {
		if 2*(len(factor)-1) > len(f)-1 {
			break
		}
		quotient, divides := exactly(f, factor)
		for divides {
			list = append(list, known{numbers(factor...), 1})
			f = quotient
			quotient, divides = exactly(f, factor)
		}
	}
	if len(f) > 1 {
		list = append(list, known{numbers(f...), 1})
	}
	return list
}

// P7: every small polynomial, against trying all that may be a factor. By
// Mignotte's bound no factor of degree 1 or 2 of one of degree 4 with coefficients
// up to 2 has one beyond 2 * 4.5, and no factor of degree 1, 2 or 3 of one of
// degree 6 with coefficients up to 1 has one beyond 3 * 2.7.
func TestFactorSmall(t *testing.T) {
	for _, c := range []struct {
		count, half  int
		most, height int64
	}{{5, 2, 2, 8}, {7, 3, 1, 7}} {
		factors := tried(c.half, c.most, c.height)
		for _, list := range smallLists(c.count, c.most) {
			content := contentOf(list)
			f := []int64{}
			for _, n := range list {
				f = append(f, n.Int64())
			}
			for len(f) > 0 && f[len(f)-1] == 0 {
				f = f[:len(f)-1]
			}
			if len(f) == 0 {
				continue
			}
			if f[len(f)-1] < 0 {
				content.Neg(content)
			}
			for k := range f {
				f[k] /= content.Int64()
			}
			checkProduct(t, content, bruteFactors(f, factors))
		}
	}
}

// P7: what is shifted has the factors shifted; among them are dense polynomials
// whose text Read does not take.
func TestFactorShifted(t *testing.T) {
	for _, s := range []string{"x^8 - 40*x^6 + 352*x^4 - 960*x^2 + 576", "x^10 - 1", "x^4 + 4", "6*x^6 - 5*x^4 + 5*x^2 - 6", "x^10 + x^5 + 1", "x^10 - 2*x^5 + 1"} {
		_, parts, _ := of(t, s).Factor()
		for by := -12; by <= 12; by++ {
			shifted, e := of(t, s).Shift(by)
			if e != api.OK {
				continue
			}
			want := []string{}
			for _, part := range parts {
				factor, _ := of(t, part.P).Shift(by)
				want = append(want, answer("", []api.Part{{P: factor.Text(), E: part.E}}, api.OK))
			}
			n, got, e := shifted.Factor()
			line := answer(n, got, e)
			for _, part := range want {
				if !strings.Contains(line+" | ", part+" | ") {
					t.Errorf("P7: Factor of %s = %s, want%s in it", shifted.Text(), line, part)
				}
			}
			if len(got) != len(parts) || n != "1" {
				t.Errorf("P7: Factor of %s = %s, want %d factors", shifted.Text(), line, len(parts))
			}
		}
	}
}

// P7: dense polynomials with coefficients of MaxDigits digits are prime, as a rule;
// by Eisenstein's test these are.
func TestFactorDense(t *testing.T) {
	d := dice(12)
	for i := range 60 {
		list := d.list(9, 11)
		for k, n := range list {
			n.Mul(n, big.NewInt(2))
			n.Add(n, big.NewInt(2*int64(d.below(9))))
			if k == 0 {
				n.Mul(n, big.NewInt(2))
				n.Add(n, big.NewInt(2))
			}
		}
		lead, _ := new(big.Int).SetString(nines, 10)
		lead.Sub(lead, big.NewInt(2*int64(i)))
		list = append(list, lead)
		if contentOf(list).Cmp(big.NewInt(1)) == 0 && !checkProduct(t, big.NewInt(1), []known{{list, 1}}) {
			t.Errorf("the test is beyond the bounds: %s", textOf(list))
		}
	}
}

// P1: a list that was handed out is the caller's: nothing changes it, and what is
// written into it, or behind its end, changes nothing.
func TestFactorLists(t *testing.T) {
	p := of(t, "3*x^10 - 3*x^4")
	want := "3 | x - 1 | x : 4 | x + 1 | x^2 - x + 1 | x^2 + x + 1"
	n, kept, e := p.Factor()
	_, written, _ := p.Factor()
	written = written[:cap(written)]
	for i := range written {
		written[i] = api.Part{P: "x^2 - 2", E: 7}
	}
	room := kept[len(kept):cap(kept)]
	for i := range room {
		room[i] = api.Part{P: "mine", E: 9}
	}
	for _, s := range []string{"3*x^10 - 3*x^4", "x^9 - 1", "0", "7", "x^10"} {
		_, later, _ := of(t, s).Factor()
		for i := range later {
			later[i] = api.Part{}
		}
		later = append(later, api.Part{P: "later", E: 1})
	}
	if got := answer(n, kept, e); got != want {
		t.Errorf("P1: a list that was handed out has become %s", got)
	}
	for i := range room {
		if room[i] != (api.Part{P: "mine", E: 9}) {
			t.Errorf("P1: behind the end of a list %v has been written", room[i])
		}
	}
	checkFactor(t, p, want)
	if p.Text() != "3*x^10 - 3*x^4" {
		t.Errorf("P1: the polynomial has become %s", p.Text())
	}
}
