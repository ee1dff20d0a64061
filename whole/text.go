package whole

import "strconv"

// Text: the number in decimal digits, without noughts ahead.
func (a Int) Text() string {
	text := digits(a.limbs)
	if a.below {
		return "-" + text
	}
	return text
}

// Digits: how many decimal digits the number has, its sign left out.
func (a Int) Digits() int {
	text := digits(a.limbs)
	return len(text)
}

// digits: the decimal digits of the limbs.
func digits(limbs []int64) string {
	last := len(limbs) - 1
	if last < 0 {
		return "0"
	}
	text := strconv.FormatInt(limbs[last], 10)
	for i := last - 1; i >= 0; i-- {
		text = text + padded(limbs[i])
	}
	return text
}

// padded: a limb with its noughts ahead.
func padded(limb int64) string {
	text := strconv.FormatInt(limb, 10)
	for len(text) < limbDigits {
		text = "0" + text
	}
	return text
}
