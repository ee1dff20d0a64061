package poly

import (
	"factor/api"
	"factor/whole"
)

// term: a number times a power of x. Powers may be of any size while a text is
// read, as what is written may cancel out.
type term struct {
	number whole.Int
	power  whole.Int
}

// reader: a text, how far it is read, and its terms so far, each power once.
type reader struct {
	text  string
	at    int
	terms []term
}

// Read: the polynomial of a text (P2).
func Read(s string) (*Poly, api.Errno, int) {
	if len(s) > api.MaxText {
		return nil, api.ErrLong, 0
	}
	r := &reader{text: s}
	if !r.readSum() {
		return nil, api.ErrSyntax, r.at
	}
	p, errno := gather(r.terms)
	return p, errno, 0
}

// readSum: reads the whole text; if it is none, at is the place of the fault.
func (r *reader) readSum() bool {
	minus := r.take('-')
	for r.readTerm(minus) {
		r.skipBlanks()
		if r.at >= len(r.text) {
			return true
		}
		minus = r.take('-')
		if !minus && !r.take('+') {
			return false
		}
	}
	return false
}

// readTerm: reads a term and adds it up, or takes it away.
func (r *reader) readTerm(minus bool) bool {
	power := whole.Int{}
	number, fits := r.readNumber()
	if !fits {
		number = whole.Small(1)
		power, fits = r.readPower()
	} else if r.take('*') {
		power, fits = r.readPower()
	}
	if !fits {
		return false
	}
	if minus {
		number = whole.Neg(number)
	}
	r.addTerm(number, power)
	return true
}

// readPower: reads x, or x ^ and a number, and answers the power.
func (r *reader) readPower() (whole.Int, bool) {
	if !r.take('x') {
		return whole.Int{}, false
	}
	if !r.take('^') {
		return whole.Small(1), true
	}
	return r.readNumber()
}

// readNumber: reads one digit or more.
func (r *reader) readNumber() (whole.Int, bool) {
	r.skipBlanks()
	start := r.at
	ten := whole.Small(10)
	number := whole.Int{}
	for r.at < len(r.text) && isDigit(r.text[r.at]) {
		digit := whole.Small(int(r.text[r.at] - '0'))
		number = whole.Mul(number, ten)
		number = whole.Add(number, digit)
		r.at++
	}
	return number, r.at > start
}

// take: passes over blanks, and over the word if it comes next.
func (r *reader) take(word byte) bool {
	r.skipBlanks()
	if r.at >= len(r.text) || r.text[r.at] != word {
		return false
	}
	r.at++
	return true
}

func (r *reader) skipBlanks() {
	for r.at < len(r.text) && r.text[r.at] == ' ' {
		r.at++
	}
}

func isDigit(b byte) bool {
	return b >= '0' && b <= '9'
}

// addTerm: adds the number to the term of its power.
func (r *reader) addTerm(number whole.Int, power whole.Int) {
	for i := 0; i < len(r.terms); i++ {
		if whole.Compare(r.terms[i].power, power) == 0 {
			r.terms[i].number = whole.Add(r.terms[i].number, number)
			return
		}
	}
	r.terms = append(r.terms, term{number, power})
}

// gather: the polynomial of the terms, or ErrBig.
func gather(terms []term) (*Poly, api.Errno) {
	greatest := whole.Small(api.MaxDeg)
	for i := 0; i < len(terms); i++ {
		if terms[i].number.Sign() != 0 && whole.Compare(terms[i].power, greatest) > 0 {
			return nil, api.ErrBig
		}
	}
	numbers := []whole.Int{}
	for k := 0; k <= api.MaxDeg; k++ {
		numbers = append(numbers, numberOf(terms, whole.Small(k)))
	}
	return bounded(numbers)
}

// numberOf: the number at a power, 0 if no term has it.
func numberOf(terms []term, power whole.Int) whole.Int {
	for i := 0; i < len(terms); i++ {
		if whole.Compare(terms[i].power, power) == 0 {
			return terms[i].number
		}
	}
	return whole.Int{}
}
