package poly

import (
	"strconv"

	"factor/whole"
)

// Text: its one text (P3).
func (p *Poly) Text() string {
	return textOf(p.numbers)
}

// textOf: the text of the polynomial with these coefficients.
func textOf(numbers []whole.Int) string {
	text := ""
	for k := len(numbers) - 1; k >= 0; k-- {
		sign := numbers[k].Sign()
		if sign == 0 {
			continue
		}
		term := termText(whole.Abs(numbers[k]), k)
		text = text + signText(sign, text == "") + term
	}
	if text == "" {
		return "0"
	}
	return text
}

// signText: what stands ahead of a term.
func signText(sign int, first bool) string {
	if first && sign < 0 {
		return "-"
	}
	if first {
		return ""
	}
	if sign < 0 {
		return " - "
	}
	return " + "
}

// termText: the term with a number above 0 and a power.
func termText(number whole.Int, power int) string {
	text := number.Text()
	if power == 0 {
		return text
	}
	variable := "x"
	if power > 1 {
		variable = "x^" + strconv.Itoa(power)
	}
	if text == "1" {
		return variable
	}
	return text + "*" + variable
}
