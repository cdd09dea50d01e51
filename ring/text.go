package ring

import (
	"strconv"
	"strings"

	"spoondrift/api"
)

// units are the texts of the powers of w to which the coefficients belong.
var units = [4]string{"", "w", "w2", "w3"}

// Print returns the text of the least form of x.
func Print(x api.Num) (string, api.Errno) {
	x, e := Least(x)
	if e != api.OK {
		return "", e
	}
	terms := coefsOf(x).print()
	if x.K == 0 {
		return terms, api.OK
	}
	return "(" + terms + ")/r" + strconv.Itoa(x.K), api.OK
}

// print returns the terms of c.
func (c coefs) print() string {
	var terms strings.Builder
	for i, part := range c {
		if part == 0 {
			continue
		}
		if part > 0 && terms.Len() > 0 {
			terms.WriteByte('+')
		}
		terms.WriteString(printTerm(part, units[i]))
	}
	if terms.Len() == 0 {
		return "0"
	}
	return terms.String()
}

// printTerm returns the text of part times a power of w, without a + in front.
func printTerm(part int, unit string) string {
	switch {
	case unit != "" && part == 1:
		return unit
	case unit != "" && part == -1:
		return "-" + unit
	}
	return strconv.Itoa(part) + unit
}

// Parse returns the number of which s is the text. A value has one text only, so that a number that is printed
// as s is the one, whatever else read may take.
func Parse(s string) (api.Num, api.Errno) {
	x, ok := read(s)
	text, e := Print(x)
	if !ok || e != api.OK || text != s {
		return api.Num{}, api.ErrForm
	}
	return x, api.OK
}

// read returns the number of a text; it also takes much that is no text.
func read(s string) (api.Num, bool) {
	inner, over := strings.CutPrefix(s, "(")
	if !over {
		c, ok := readTerms(s)
		return c.number(0), ok
	}
	terms, power, _ := strings.Cut(inner, ")/r")
	c, ok := readTerms(terms)
	k, rest := readDigits(power)
	return c.number(k), ok && rest == ""
}

// readTerms reads terms up to the end of s, in any order.
func readTerms(s string) (coefs, bool) {
	var c coefs
	for s != "" {
		i, part, rest, ok := readTerm(s)
		if !ok || c[i] != 0 {
			return coefs{}, false
		}
		c[i] = part
		s = rest
	}
	return c, true
}

// readTerm reads a term at the beginning of s: its power of w, its coefficient, and what is behind it.
func readTerm(s string) (i, part int, rest string, ok bool) {
	sign := 1
	switch {
	case strings.HasPrefix(s, "-"):
		sign, s = -1, s[1:]
	case strings.HasPrefix(s, "+"):
		s = s[1:]
	}
	part, rest = readDigits(s)
	written := len(rest) < len(s)
	if !written {
		part = 1
	}
	// The longest unit first: "w2" begins with "w", and all begin with "".
	i = len(units) - 1
	for !strings.HasPrefix(rest, units[i]) {
		i--
	}
	return i, sign * part, rest[len(units[i]):], written || i > 0
}

// readDigits reads the digits at the beginning of s; n is above api.MaxCoef if their number is.
func readDigits(s string) (n int, rest string) {
	end := len(s)
digits:
	for i, c := range s {
		switch {
		case '0' <= c && c <= '9':
			n = min(10*n+int(c-'0'), api.MaxCoef+1)
		default:
			end = i
			break digits
		}
	}
	return n, s[end:]
}
