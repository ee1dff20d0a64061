// Package whole: whole numbers of any size.
package whole

// base is a power of ten, so that a decimal text needs no long division; and
// a product of two limbs with two more added stays far below 1<<63.
const base int64 = 1000000000

// limbDigits: how many decimal digits a limb has.
const limbDigits = 9

// Int: a whole number; the zero value is 0. Nothing writes into the limbs of
// a number once it is made, so numbers may be copied freely.
type Int struct {
	below bool    // below 0; never so of 0
	limbs []int64 // digits to the base, the lowest first; the last is not 0
}

// Small: the number n.
func Small(n int) Int {
	below := n < 0
	limbs := []int64{}
	rest := int64(n)
	for rest != 0 {
		// The lowest int cannot be turned, each of its limbs can.
		limb := rest % base
		if limb < 0 {
			limb = -limb
		}
		limbs = append(limbs, limb)
		rest = rest / base
	}
	return Int{below, limbs}
}

// Sign: -1, 0 or 1.
func (a Int) Sign() int {
	if len(a.limbs) == 0 {
		return 0
	}
	if a.below {
		return -1
	}
	return 1
}

// Neg: a turned.
func Neg(a Int) Int {
	return signed(!a.below, a.limbs)
}

// Abs: a without its sign.
func Abs(a Int) Int {
	return signed(false, a.limbs)
}

// Compare: -1 if a is less than b, 0 if they are alike, 1 if a is greater.
func Compare(a Int, b Int) int {
	if a.below && !b.below {
		return -1
	}
	if !a.below && b.below {
		return 1
	}
	order := compareLimbs(a.limbs, b.limbs)
	if a.below {
		return -order
	}
	return order
}

// Add: the sum.
func Add(a Int, b Int) Int {
	if a.below == b.below {
		return signed(a.below, addLimbs(a.limbs, b.limbs))
	}
	if compareLimbs(a.limbs, b.limbs) >= 0 {
		return signed(a.below, subLimbs(a.limbs, b.limbs))
	}
	return signed(b.below, subLimbs(b.limbs, a.limbs))
}

// Sub: the difference a less b.
func Sub(a Int, b Int) Int {
	turned := Neg(b)
	return Add(a, turned)
}

// Mul: the product.
func Mul(a Int, b Int) Int {
	return signed(a.below != b.below, mulLimbs(a.limbs, b.limbs))
}
