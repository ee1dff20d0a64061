package modular

import (
	"math/big"
	"slices"
	"testing"
)

func TestIsPrime(t *testing.T) {
	for n := -10; n < 3000; n++ {
		want := n > 1 && big.NewInt(int64(n)).ProbablyPrime(0)
		if IsPrime(n) != want {
			t.Errorf("IsPrime(%d) = %v", n, !want)
		}
	}
}

// lists: all polynomials of degree less than count, each once.
func lists(count int, p int) [][]int {
	all := [][]int{{}}
	for range count {
		longer := [][]int{}
		for _, a := range all {
			for c := range p {
				longer = append(longer, append([]int{c}, a...))
			}
		}
		all = longer
	}
	for i, a := range all {
		all[i] = Trim(a)
	}
	return all
}

// sound: whether the list is in its one form.
func sound(a []int, p int) bool {
	for _, c := range a {
		if c < 0 || c >= p {
			return false
		}
	}
	return len(a) == 0 || a[len(a)-1] != 0
}

// less: a less b.
func less(a []int, b []int, p int) []int {
	c := make([]int, max(len(a), len(b)))
	copy(c, a)
	for k := range b {
		c[k] = (c[k] + p - b[k]) % p
	}
	return Trim(c)
}

func TestDivide(t *testing.T) {
	for _, p := range []int{2, 3, 5, 7} {
		count := map[int]int{2: 6, 3: 4, 5: 3, 7: 2}[p]
		all := lists(count, p)
		for _, a := range all {
			for _, b := range all {
				given := slices.Clone(a)
				quotient, rest := Divide(a, b, p)
				if !sound(quotient, p) || !sound(rest, p) || !slices.Equal(a, given) {
					t.Fatalf("modulo %d: %v divided by %v = %v, %v", p, given, b, quotient, rest)
				}
				if len(b) == 0 {
					if len(quotient) > 0 || !slices.Equal(rest, a) {
						t.Errorf("modulo %d: %v divided by 0 = %v, %v", p, a, quotient, rest)
					}
				} else if len(rest) >= len(b) || !slices.Equal(less(a, Mul(quotient, b, p), p), rest) {
					t.Errorf("modulo %d: %v divided by %v = %v, %v", p, a, b, quotient, rest)
				}
			}
		}
	}
}

// monics: the polynomials of degree from 1 to most with leading coefficient 1.
func monics(most int, p int) [][]int {
	list := [][]int{}
	for _, a := range lists(most+1, p) {
		if len(a) > 1 && a[len(a)-1] == 1 {
			list = append(list, a)
		}
	}
	slices.SortStableFunc(list, func(a []int, b []int) int { return len(a) - len(b) })
	return list
}

// bruteSplit: the prime factors, with those that stand twice, by trying them all.
func bruteSplit(f []int, tried [][]int, p int) [][]int {
	factors := [][]int{}
	for _, g := range tried {
		for len(g) <= len(f) {
			quotient, rest := Divide(f, g, p)
			if len(rest) > 0 {
				break
			}
			factors = append(factors, g)
			f = quotient
		}
	}
	return factors
}

func sorted(list [][]int) [][]int {
	list = slices.Clone(list)
	slices.SortFunc(list, slices.Compare)
	return list
}

// checkSplit: the factors must be those that trying has found.
func checkSplit(t *testing.T, f []int, want [][]int, p int) {
	t.Helper()
	want = sorted(want)
	free := len(slices.CompactFunc(slices.Clone(want), slices.Equal)) == len(want)
	if SquareFree(f, p) != free {
		t.Errorf("modulo %d: SquareFree of %v = %v", p, f, !free)
	}
	if !free {
		return
	}
	got := Split(f, p)
	if !slices.EqualFunc(sorted(got), want, slices.Equal) {
		t.Fatalf("modulo %d: the factors of %v = %v, want %v", p, f, got, want)
	}
	checkCofactors(t, f, got, p)
}

// checkCofactors: each is to give 1 times the other factors.
func checkCofactors(t *testing.T, f []int, parts [][]int, p int) {
	t.Helper()
	for i, cofactor := range Cofactors(f, parts, p) {
		others := []int{f[len(f)-1]}
		for k, part := range parts {
			if k != i {
				others = Mul(others, part, p)
			}
		}
		_, rest := Divide(Mul(others, cofactor, p), parts[i], p)
		if !sound(cofactor, p) || len(cofactor) >= len(parts[i]) || !slices.Equal(rest, []int{1}) {
			t.Errorf("modulo %d: cofactor %d of %v, %v = %v", p, i, f, parts, cofactor)
		}
	}
}

// Every polynomial of some degrees, against trying all that may divide it.
func TestSplitSmall(t *testing.T) {
	for _, c := range []struct{ p, most int }{{2, 9}, {3, 5}, {5, 4}, {7, 3}} {
		tried := monics(c.most, c.p)
		for _, f := range tried {
			want := bruteSplit(f, tried, c.p)
			for lead := 1; lead < c.p; lead++ {
				checkSplit(t, Mul(f, []int{lead}, c.p), want, c.p)
			}
		}
	}
}

// Products of polynomials of degree 1 and 2, modulo greater primes.
func TestSplitMany(t *testing.T) {
	seed := uint64(3)
	below := func(n int) int {
		seed = seed*6364136223846793005 + 1442695040888963407
		return int(seed>>33) % n
	}
	for _, p := range []int{2, 3, 11, 13, 31, 101, 499, 997} {
		tried := [][]int{}
		for c := range p {
			tried = append(tried, []int{c, 1})
		}
		squares := map[int]bool{}
		for c := range p {
			squares[c*c%p] = true
		}
		for range 60 {
			f := []int{1 + below(p-1)}
			want := [][]int{}
			for degree := 1 + below(10); degree > 0; degree-- {
				part := tried[below(p)]
				b, c := below(p), below(p)
				if p > 2 && degree > 1 && !squares[(b*b+4*p*p-4*c)%p] {
					part = []int{c, b, 1}
					degree--
				}
				f = Mul(f, part, p)
				want = append(want, part)
			}
			checkSplit(t, f, want, p)
		}
	}
}
