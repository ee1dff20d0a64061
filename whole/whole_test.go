package whole

import (
	"math"
	"math/big"
	"testing"
)

// samples: numbers about the edges of limbs and ints, and long ones.
func samples() []*big.Int {
	list := []*big.Int{big.NewInt(0), big.NewInt(math.MaxInt64)}
	for _, power := range []int64{0, 1, 8, 9, 10, 12, 17, 18, 19, 27, 40, 200} {
		edge := new(big.Int).Exp(big.NewInt(10), big.NewInt(power), nil)
		for _, step := range []int64{-2, -1, 0, 1, 2} {
			list = append(list, new(big.Int).Add(edge, big.NewInt(step)))
		}
	}
	seed := uint64(1)
	for bits := uint(3); bits < 400; bits += 31 {
		n := new(big.Int)
		for range bits {
			seed = seed*6364136223846793005 + 1442695040888963407
			n.Lsh(n, 1)
			n.Or(n, new(big.Int).SetUint64(seed>>63))
		}
		list = append(list, n)
	}
	for _, n := range list {
		list = append(list, new(big.Int).Neg(n))
	}
	return list
}

// of: the number, built of its digits.
func of(n *big.Int) Int {
	number := Int{}
	for _, digit := range new(big.Int).Abs(n).String() {
		number = Add(Mul(number, Small(10)), Small(int(digit-'0')))
	}
	if n.Sign() < 0 {
		return Neg(number)
	}
	return number
}

// sound: whether the number is in its one form.
func sound(a Int) bool {
	for _, limb := range a.limbs {
		if limb < 0 || limb >= base {
			return false
		}
	}
	if len(a.limbs) == 0 {
		return !a.below
	}
	return a.limbs[len(a.limbs)-1] != 0
}

func check(t *testing.T, call string, a *big.Int, b *big.Int, got Int, want *big.Int) {
	t.Helper()
	if !sound(got) || got.Text() != want.String() {
		t.Errorf("%s of %s and %s = %s, want %s", call, a, b, got.Text(), want)
	}
}

func TestSmall(t *testing.T) {
	for _, n := range []int{0, 1, -1, 9, 10, 99, -99, 999999999, 1000000000, -1000000000, math.MaxInt, math.MinInt, math.MinInt + 1} {
		want := big.NewInt(int64(n))
		check(t, "Small", want, want, Small(n), want)
	}
}

func TestOneNumber(t *testing.T) {
	for _, n := range samples() {
		a := of(n)
		check(t, "Text", n, n, a, n)
		check(t, "Neg", n, n, Neg(a), new(big.Int).Neg(n))
		check(t, "Abs", n, n, Abs(a), new(big.Int).Abs(n))
		if a.Sign() != n.Sign() {
			t.Errorf("Sign of %s = %d", n, a.Sign())
		}
		if want := len(new(big.Int).Abs(n).String()); a.Digits() != want {
			t.Errorf("Digits of %s = %d, want %d", n, a.Digits(), want)
		}
	}
}

func TestModulo(t *testing.T) {
	for _, n := range samples() {
		a := of(n)
		for _, m := range []int{1, 2, 3, 7, 10, 997, 1 << 29, int(base) - 1, int(base)} {
			want := int(new(big.Int).Mod(n, big.NewInt(int64(m))).Int64())
			if a.Modulo(m) != want {
				t.Errorf("%s modulo %d = %d, want %d", n, m, a.Modulo(m), want)
			}
		}
		for _, m := range []int{0, -1, -7, math.MinInt, int(base) + 1, math.MaxInt} {
			if a.Modulo(m) != 0 {
				t.Errorf("%s modulo %d = %d, want 0", n, m, a.Modulo(m))
			}
		}
	}
}

func TestTwoNumbers(t *testing.T) {
	list := samples()
	for _, n := range list {
		for _, m := range list {
			a, b := of(n), of(m)
			check(t, "Add", n, m, Add(a, b), new(big.Int).Add(n, m))
			check(t, "Sub", n, m, Sub(a, b), new(big.Int).Sub(n, m))
			check(t, "Mul", n, m, Mul(a, b), new(big.Int).Mul(n, m))
			check(t, "Gcd", n, m, Gcd(a, b), new(big.Int).GCD(nil, nil, new(big.Int).Abs(n), new(big.Int).Abs(m)))
			checkDivide(t, n, m)
			if Compare(a, b) != n.Cmp(m) {
				t.Errorf("Compare of %s and %s = %d", n, m, Compare(a, b))
			}
			check(t, "nothing", n, m, a, n)
			check(t, "nothing", n, m, b, m)
		}
	}
}

func checkDivide(t *testing.T, n *big.Int, m *big.Int) {
	t.Helper()
	quotient, rest := Divide(of(n), of(m))
	wantQuotient, wantRest := new(big.Int), n
	if m.Sign() != 0 {
		wantQuotient, wantRest = new(big.Int).QuoRem(n, m, new(big.Int))
	}
	check(t, "the quotient", n, m, quotient, wantQuotient)
	check(t, "the rest", n, m, rest, wantRest)
}

// fromLimbs: the number of limbs, the highest first.
func fromLimbs(limbs []int64) *big.Int {
	n := new(big.Int)
	for _, limb := range limbs {
		n.Mul(n, big.NewInt(base))
		n.Add(n, big.NewInt(limb))
	}
	return n
}

// limbLists: every list of some limbs of the edges: among such numbers are those
// where the first guess of a limb of the quotient is one too many, or two.
func limbLists(edges []int64, longest int) []*big.Int {
	numbers := []*big.Int{}
	lists := [][]int64{{}}
	for range longest {
		longer := [][]int64{}
		for _, list := range lists {
			for _, limb := range edges {
				next := append(append([]int64{}, list...), limb)
				longer = append(longer, next)
				numbers = append(numbers, fromLimbs(next))
			}
		}
		lists = longer
	}
	return numbers
}

func TestDivideEdges(t *testing.T) {
	divisors := limbLists([]int64{0, 1, base / 2, base - 1}, 3)
	for _, n := range limbLists([]int64{0, 1, base/2 - 1, base - 1}, 4) {
		for _, m := range divisors {
			checkDivide(t, n, m)
		}
	}
}

// The rest is one less than the divisor, or the number just fits.
func TestDivideMultiples(t *testing.T) {
	list := samples()
	for _, n := range list {
		for _, m := range list {
			both := new(big.Int).Mul(n, m)
			checkDivide(t, both, m)
			checkDivide(t, new(big.Int).Sub(both, big.NewInt(1)), m)
			checkDivide(t, new(big.Int).Add(both, big.NewInt(1)), m)
		}
	}
}

// Numbers that need the most steps of all, and those with a great divisor.
func TestGcdLong(t *testing.T) {
	n, m := big.NewInt(0), big.NewInt(1)
	for range 600 {
		n, m = m, new(big.Int).Add(n, m)
	}
	for _, times := range samples() {
		a, b := new(big.Int).Mul(n, times), new(big.Int).Mul(m, times)
		want := new(big.Int).Abs(times)
		check(t, "Gcd", a, b, Gcd(of(a), of(b)), want)
		check(t, "Gcd", b, a, Gcd(of(b), of(a)), want)
	}
}
