package poly_test

import (
	"math/big"
	"testing"

	"factor/api"
	"factor/poly"
)

// sums: every way to write a number as a sum, the summands falling from most on.
func sums(number int, most int) [][]int {
	if number == 0 {
		return [][]int{{}}
	}
	all := [][]int{}
	for first := min(number, most); first > 0; first-- {
		for _, rest := range sums(number-first, first) {
			all = append(all, append([]int{first}, rest...))
		}
	}
	return all
}

// P7: factors of every degree, in every company that they may have.
func TestFactorEverySum(t *testing.T) {
	d := dice(16)
	for degree := 1; degree <= api.MaxDeg; degree++ {
		for _, sum := range sums(degree, degree) {
			seen := 0
			for i := 0; i < 40 && seen < 6; i++ {
				list := []known{}
				for _, n := range sum {
					list = append(list, known{tall(&d, n, 1+i%3), 1})
				}
				if checkProduct(t, numbers(1, -1, 2)[i%3], list) {
					seen++
				}
			}
			if seen < 6 {
				t.Errorf("the test has seen too little of %v: %d", sum, seen)
			}
		}
	}
}

// P7: a factor of every degree, as often as it may stand, alone and beside another
// one that stands once or twice.
func TestFactorEveryCount(t *testing.T) {
	d := dice(17)
	for degree := 1; degree <= api.MaxDeg; degree++ {
		for count := 1; degree*count <= api.MaxDeg; count++ {
			checkCount(t, known{tall(&d, degree, 2), count}, nil)
			for other := 1; other <= api.MaxDeg-degree*count; other++ {
				checkCount(t, known{tall(&d, degree, 2), count}, []known{{tall(&d, other, 2), 1}})
				if degree*count+2*other <= api.MaxDeg {
					checkCount(t, known{tall(&d, degree, 2), count}, []known{{tall(&d, other, 2), 2}})
				}
			}
		}
	}
	// Linear ones in the greatest number, with great coefficients.
	for _, line := range [][]*big.Int{numbers(0, 1), numbers(1, 1), numbers(-1, 1), numbers(-3, 2), numbers(7, 10), numbers(-15, 1), numbers(1, 15), numbers(7, 8)} {
		checkCount(t, known{line, api.MaxDeg}, nil)
	}
}

func checkCount(t *testing.T, one known, others []known) {
	t.Helper()
	if !checkProduct(t, big.NewInt(-1), append(others, one)) {
		t.Errorf("the test is beyond the bounds: %s, %d times, and %d others", textOf(one.factor), one.count, len(others))
	}
}

// P7: contents above and below 0, up to the greatest, some with a divisor that a
// factor's leading coefficient has too.
func TestFactorContents(t *testing.T) {
	lists := [][]known{
		{}, {{numbers(0, 1), 1}}, {{numbers(0, 1), 10}}, {{numbers(-1, 1), 1}, {numbers(1, 1), 1}},
		{{numbers(-1, 1), 1}, {numbers(0, 1), 3}, {numbers(1, 1, 1), 1}}, {{numbers(1, 1, 0, 0, 1), 1}},
		{{numbers(1, 2), 1}}, {{numbers(1, 2), 1}, {numbers(2, 3), 1}}, {{numbers(3, 2), 2}, {numbers(5, 0, 6), 1}},
	}
	seen := 0
	for _, s := range []string{"1", "2", "3", "6", "12", "35", "4096", "999999937", "1000000000", "1000000001", "166666666666", "999999999989", nines} {
		content, _ := new(big.Int).SetString(s, 10)
		for _, list := range lists {
			if checkProduct(t, content, list) && checkProduct(t, new(big.Int).Neg(content), list) {
				seen++
			}
		}
	}
	if seen < 80 {
		t.Errorf("the test has seen too little: %d", seen)
	}
}

// P7: of a number the content is all; of 0, however it came about, all is empty.
func TestFactorNumbers(t *testing.T) {
	for n := int64(-1200); n <= 1200; n++ {
		if n != 0 {
			checkProduct(t, big.NewInt(n), nil)
		}
	}
	x, power := of(t, "x"), of(t, "3*x^10 - 7")
	noughts := []*poly.Poly{of(t, "0"), of(t, "-0"), of(t, "0*x^10 + 0*x"), of(t, "x^99 - x^99")}
	for _, p := range []*poly.Poly{x, power} {
		less, _ := poly.Sub(p, p)
		none, _ := poly.Mul(p, less)
		moved, _ := less.Shift(3)
		noughts = append(noughts, less, none, moved)
	}
	for _, p := range noughts {
		if n, l, e := p.Factor(); n != "" || len(l) != 0 || e != api.ErrZero {
			t.Errorf("P7: Factor of 0 = %q, %v, %d, want ErrZero", n, l, e)
		}
	}
}

// P7: the order of two factors of one degree that are unlike at one power, and
// beneath it in the same sense, or otherwise, or not at all. By Eisenstein's test
// with 2 they are prime.
func TestFactorOrder(t *testing.T) {
	pairs := [][2]int64{{-10, -2}, {-2, 2}, {-10, 2}, {2, 10}, {-1000000002, 2}, {2, 1000000002}, {98, 1000000002}, {-1000000002, 98}, {-2, 0}, {0, 2}}
	for degree := 1; degree <= 5; degree++ {
		for k := range degree {
			for _, pair := range pairs {
				if k == 0 && pair[0]*pair[1] == 0 {
					continue
				}
				for _, beneath := range []int64{-6, 2, 10} {
					checkOrder(t, unlike(degree, k, pair[0], 2), unlike(degree, k, pair[1], beneath))
				}
			}
		}
	}
	// Unlike at the highest power.
	for _, lead := range []int64{3, 5, 9, 11} {
		checkOrder(t, numbers(-2, lead), numbers(2, lead-2))
		checkOrder(t, numbers(2, 2, lead), numbers(-6, 100, lead-2))
	}
}

// unlike: a power of x and a coefficient at x^k, and another one all beneath it.
func unlike(degree int, k int, c int64, beneath int64) []*big.Int {
	list := power(degree)
	for i := range k {
		list[i].SetInt64(beneath)
	}
	for i := k + 1; i < degree; i++ {
		list[i].SetInt64(4)
	}
	list[k].SetInt64(c)
	return list
}

func checkOrder(t *testing.T, a []*big.Int, b []*big.Int) {
	t.Helper()
	for _, content := range numbers(1, -3) {
		for _, list := range [][]known{{{a, 1}, {b, 1}}, {{b, 1}, {a, 1}}} {
			if !checkProduct(t, content, list) {
				t.Errorf("the test is beyond the bounds: %s, %s", textOf(a), textOf(b))
			}
		}
	}
}

// P7: polynomials for which many prime numbers do not fit: modulo the lesser ones
// they have a square in them, or lose their degree. The least that fits is 137,
// 149, 173, 191 and 193.
func TestFactorManyPrimes(t *testing.T) {
	for _, c := range []struct {
		content int64
		list    [][]*big.Int
	}{
		{-1, [][]*big.Int{numbers(-2, 1), numbers(1, 1, 1), numbers(787942803, 1225612382, 2921455440, 5424889807, 11246126090, 22306302632, 44590920539, 89138302704)}},
		{1, [][]*big.Int{numbers(-2, 0, 0, 0, 1), numbers(296985326753, -346503530458, 189857933857, -25983804923, 555691540650, -102056863754, 420985483490)}},
		{-1, [][]*big.Int{numbers(-2, 0, 1), numbers(-1, -1, 0, 1), numbers(138742003143, -395272982421, 639768978664, -313297758482, 170228262698, 190501419108)}},
		{-1, [][]*big.Int{numbers(1, 1, 1), numbers(-80563412964, -641253382523, 1055414454834, -562916030354, -51777224276, 465604361419, -314033728440, -1075815336569, 754758333238)}},
		{-1, [][]*big.Int{numbers(-559961049507, -184502764444, -329212887735, 866472858309, -176433527584, -248551203446, 121022854080, -435802903698, 458461504914, 202112948770, 972759138240)}},
	} {
		list := []known{}
		for _, factor := range c.list {
			list = append(list, known{factor, 1})
		}
		if !checkProduct(t, big.NewInt(c.content), list) {
			t.Errorf("the test is beyond the bounds: %v", c.list)
		}
	}
}

// P1: lists of many polynomials are kept while each is factored again, and what
// comes of that is written over, with the room behind its end.
func TestFactorListsKept(t *testing.T) {
	given := []*poly.Poly{}
	kept := [][]api.Part{}
	lines := []string{}
	for _, s := range []string{"x^10 - 1", "x^8 - 1", "0", "-7", "x^4 + 1", "-6*x^2 + 6", "x^10", "x^4 + 4", "3*x^10 - 3*x^4", "x^5 - 5*x^3 + 4*x"} {
		p := of(t, s)
		n, l, e := p.Factor()
		given = append(given, p)
		kept = append(kept, l)
		lines = append(lines, answer(n, l, e))
	}
	for range 3 {
		for i, p := range given {
			n, l, e := p.Factor()
			if got := answer(n, l, e); got != lines[i] {
				t.Errorf("P1: Factor of %s = %s, once it was %s", p.Text(), got, lines[i])
			}
			l = l[:cap(l)]
			for k := range l {
				l[k] = api.Part{P: "mine", E: -1}
			}
		}
	}
	for i, p := range given {
		n, _, e := p.Factor()
		if got := answer(n, kept[i], e); got != lines[i] {
			t.Errorf("P1: the list of %s has become %s, it was %s", p.Text(), got, lines[i])
		}
	}
}
