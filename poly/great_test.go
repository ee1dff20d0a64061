package poly_test

import (
	"math/big"
	"slices"
	"testing"

	"factor/api"
)

// nearPrime: a polynomial near the given one, with a leading coefficient above 0,
// divided by its content: by Eisenstein's test with the prime number q it is prime.
func nearPrime(list []*big.Int, q int64) []*big.Int {
	last := len(list) - 1
	near := times(list, numbers(int64(list[last].Sign())))[:last+1]
	for k, n := range near {
		rest := new(big.Int).Mod(n, big.NewInt(q))
		if k == 0 {
			rest.Mod(n, big.NewInt(q*q))
			n.Add(n, big.NewInt(q))
		}
		if k < last {
			n.Sub(n, rest)
		} else if rest.Sign() == 0 {
			n.Add(n, big.NewInt(1))
		}
	}
	return primitiveOf(near)
}

// circle: x^k - 1, or x^k + 1, as a product of prime polynomials.
func circle(k int, plus bool) []known {
	list := []known{}
	for n := 1; n <= 2*k; n++ {
		if !plus && k%n == 0 || plus && 2*k%n == 0 && k%n != 0 {
			list = append(list, known{cyclotomic(n), 1})
		}
	}
	return list
}

// cyclotomic: the prime polynomial whose roots are the roots of 1 of order n.
func cyclotomic(n int) []*big.Int {
	list := plus(power(n), numbers(1), -1)
	for m := 1; m < n; m++ {
		if n%m == 0 {
			list = divided(list, cyclotomic(m))
		}
	}
	return cutNoughts(list)
}

// divided: the quotient of polynomials of which one divides the other.
func divided(a []*big.Int, b []*big.Int) []*big.Int {
	quotient, _ := fractionDivide(fractions(a), fractions(b))
	list := []*big.Int{}
	for _, n := range quotient {
		list = append(list, n.Num())
	}
	return list
}

// circles: the prime factors of a product of circles, of degree MaxDeg.
func circles(d *dice) []known {
	list := []known{}
	for left := api.MaxDeg; left > 0; {
		k := 1 + d.below(min(left, 5))
		list = append(list, circle(k, d.below(2) == 0)...)
		left -= k
	}
	return list
}

// multiplied: the product of some of the factors, and the list of the others.
func multiplied(d *dice, parts []known) ([]*big.Int, []known) {
	product := numbers(1)
	others := []known{}
	for _, part := range parts {
		if d.below(2) == 0 {
			others = append(others, part)
		} else {
			product = cutNoughts(times(product, part.factor))
		}
	}
	return product, others
}

// cutNoughts: the list without the noughts at its end.
func cutNoughts(list []*big.Int) []*big.Int {
	for len(list) > 0 && list[len(list)-1].Sign() == 0 {
		list = list[:len(list)-1]
	}
	return list
}

// scaled: a number of times the list, so that the other list as many times has
// coefficients just below those of MaxDigits digits that are greatest.
func scaled(list []*big.Int, other []*big.Int, less int64) []*big.Int {
	number, _ := new(big.Int).SetString(nines, 10)
	number.Sub(number, big.NewInt(10000))
	number.Quo(number, height(other))
	number.Sub(number, big.NewInt(less))
	return times(list, []*big.Int{number})[:len(list)]
}

// P7: factors with more digits than the polynomial has. Of a product with small
// coefficients some factors are multiplied out, which gives greater ones, and this
// as often as may be; what is a little beside it is prime.
func TestFactorGreat(t *testing.T) {
	d := dice(14)
	seen := [api.MaxDeg + 1]int{}
	for i := range 4000 {
		parts := circles(&d)
		all := numbers(1)
		for _, part := range parts {
			all = times(all, part.factor)
		}
		product, list := multiplied(&d, parts)
		if len(product) < 2 {
			continue
		}
		great := nearPrime(scaled(product, all, int64(d.below(1000))), []int64{2, 3, 5, 7}[i%4])
		if len(height(great).String()) <= api.MaxDigits {
			continue
		}
		if checkProduct(t, numbers(1, -1)[i%2], append(list, known{great, 1})) {
			seen[len(great)-1]++
		}
	}
	if slices.Min(seen[2:api.MaxDeg]) < 10 {
		t.Errorf("the test has seen too little: %v", seen)
	}
}

// sparse: the polynomial with terms at these powers alone that x - 1 divides as
// often as may be, which is once less than there are powers; it is primitive.
func sparse(powers []int) []*big.Int {
	list := []*big.Int{}
	for range api.MaxDeg + 1 {
		list = append(list, new(big.Int))
	}
	for _, a := range powers {
		list[a].MulRange(1, 200)
		for _, b := range powers {
			if a != b {
				list[a].Quo(list[a], big.NewInt(int64(a-b)))
			}
		}
	}
	return primitiveOf(list)
}

// steep: a power of x - 1.
func steep(count int) []*big.Int {
	list := numbers(1)
	for range count {
		list = cutNoughts(times(list, numbers(-1, 1)))
	}
	return list
}

// P7: factors with coefficients far greater than their leading ones, so that they
// are greater than all of the polynomial's coefficients taken together, when they
// are multiplied up to its leading one: each time one near a power of x - 1, and
// one near what makes most terms of the product nought.
func TestFactorSteep(t *testing.T) {
	d := dice(15)
	seen := 0
	for i := range 400 {
		powers := [][]int{{0, 1, 3, 6, 8, 9, 10}, {0, 1, 4, 6, 8, 9, 10}, {0, 2, 7, 9, 10}, {0, 3, 7, 9, 10}, {0, 1, 4, 8, 9, 10}}[i%5]
		few := sparse(powers)
		one := steep(len(powers) - 1)
		size := numbers(int64(300 + d.below(100000)))
		other := cutNoughts(times(divided(few, one), size))
		one = scaled(one, times(few, size), int64(d.below(30)))
		q := []int64{2, 3, 5}[d.below(3)]
		if checkProduct(t, big.NewInt(1), []known{{nearPrime(one, q), 1}, {nearPrime(other, q), 1}}) {
			seen++
		}
	}
	if seen < 200 {
		t.Errorf("the test has seen too little: %d", seen)
	}
}
