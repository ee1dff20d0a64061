package poly_test

import (
	"math/big"
	"slices"
	"testing"

	"factor/api"
	"factor/modular"
)

// apart: prime polynomials, the coefficient of x^0 first, that fall apart modulo
// every prime number. Of their roots' permutations none moves all in one round.
func apart() [][]*big.Int {
	return [][]*big.Int{
		numbers(1, 0, 0, 0, 1), numbers(1, 0, -10, 0, 1), numbers(12, 8, 0, 0, 1),
		numbers(108, 0, 0, 0, 0, 0, 1), numbers(1, -3, 0, 5, 0, -3, 1), numbers(-20, 24, 0, 0, 0, 0, 1), numbers(-1, 0, -4, 0, 0, 0, 1),
		numbers(576, 0, -960, 0, 352, 0, -40, 0, 1), numbers(1, 0, 0, 0, 0, 0, 0, 0, 1), numbers(1, -1, 0, 1, -1, 1, 0, -1, 1),
		numbers(9, 0, -36, 0, 36, 0, -12, 0, 1), numbers(1, 0, 28, 0, 2, 0, 4, 0, 1), numbers(1, 8, 17, 4, 4, -2, 4, 0, 1),
		numbers(1, -9, -51, -1, 93, 21, -38, -12, 3, 1), numbers(-1, 0, 0, 165, 0, 0, -3, 0, 0, 1), numbers(1, 15, -3, 56, -12, 3, -3, -3, 0, 1),
		numbers(-1, 4, -4, 0, 0, 11, 3, 0, 0, 0, 1), numbers(-256, 1280, -1600, 0, 0, -176, -60, 0, 0, 0, 1),
		numbers(229338475, 19713680, 25247881, 1693406, 1091995, 54052, 23226, 762, 243, 4, 1),
	}
}

// stretched: a number times x + another in the place of x, divided by the content.
func stretched(list []*big.Int, by int64, shift int64) []*big.Int {
	total := []*big.Int{}
	for k := len(list) - 1; k >= 0; k-- {
		total = times(total, numbers(shift, by))
		total = plus(total, []*big.Int{list[k]}, 1)
	}
	return primitiveOf(total[:len(list)])
}

// primitiveOf: the list divided by its content, with the signs that it has.
func primitiveOf(list []*big.Int) []*big.Int {
	content := contentOf(list)
	divided := []*big.Int{}
	for _, n := range list {
		divided = append(divided, new(big.Int).Quo(n, content))
	}
	return divided
}

// reversed: the coefficients from the other end, turned if the leading one would
// be below 0. The last is not 0.
func reversed(list []*big.Int) []*big.Int {
	turned := times(list, numbers(int64(list[0].Sign())))[:len(list)]
	slices.Reverse(turned)
	return turned
}

// variants: prime polynomials that fall apart as the given one does.
func variants(list []*big.Int) [][]*big.Int {
	all := [][]*big.Int{}
	for _, by := range []int64{1, 2, 3} {
		for shift := int64(-2); shift <= 2; shift++ {
			one := stretched(list, by, shift)
			all = append(all, one, reversed(one))
		}
	}
	return all
}

// partsModulo: how many factors the polynomial has modulo a prime number; 0 if it
// is not square-free there, or loses its degree.
func partsModulo(list []*big.Int, p int) int {
	image := []int{}
	for _, n := range list {
		image = append(image, int(new(big.Int).Mod(n, big.NewInt(int64(p))).Int64()))
	}
	if image[len(image)-1] == 0 || !modular.SquareFree(image, p) {
		return 0
	}
	return len(modular.Split(image, p))
}

// The tests below have what they want: no prime number shows that one is prime.
func TestApart(t *testing.T) {
	for _, list := range apart() {
		for p := 2; p < 300; p++ {
			if modular.IsPrime(p) && partsModulo(list, p) == 1 {
				t.Errorf("modulo %d %s is prime", p, textOf(list))
			}
		}
	}
}

// P7: each of them is its own factor, with a content above and below 0.
func TestFactorApart(t *testing.T) {
	seen := [api.MaxDeg + 1]int{}
	for _, list := range apart() {
		for i, one := range variants(list) {
			content := big.NewInt([]int64{1, -1, 6, -35}[i%4])
			if checkProduct(t, content, []known{{one, 1}}) {
				seen[len(one)-1]++
			}
		}
	}
	if seen[4] < 50 || seen[6] < 50 || seen[8] < 100 || seen[9] < 50 || seen[10] < 50 {
		t.Errorf("the test has seen too little: %v", seen)
	}
}

// P7: products of two of them, or of one and others, and their squares.
func TestFactorApartProducts(t *testing.T) {
	d := dice(13)
	seen := [api.MaxDeg + 1]int{}
	for _, a := range apart() {
		for _, one := range variants(a) {
			degree := len(one) - 1
			list := []known{{one, 1}}
			for left := api.MaxDeg - degree; left > 0; {
				more := 1 + d.below(left)
				list = append(list, known{tall(&d, more, 3), 1})
				left -= more
			}
			if checkProduct(t, big.NewInt(1), list) {
				seen[degree]++
			}
		}
		for _, b := range apart() {
			if len(a)+len(b)-2 <= api.MaxDeg {
				checkProduct(t, big.NewInt(-2), []known{{a, 1}, {b, 1}})
				checkProduct(t, big.NewInt(3), []known{{a, 1}, {reversed(stretched(b, 2, 1)), 1}})
			}
		}
	}
	if seen[4] < 50 || seen[6] < 50 || seen[8] < 50 || seen[9] < 30 {
		t.Errorf("the test has seen too little: %v", seen)
	}
}
