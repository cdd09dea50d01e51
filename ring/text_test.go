package ring

import (
	"regexp"
	"strconv"
	"strings"
	"testing"

	"spoondrift/api"
)

// P1.4: the texts of numbers, and what Parse reads of them.
func TestTexts(t *testing.T) {
	const most = api.MaxCoef
	for _, x := range []struct {
		x    api.Num
		text string
	}{
		{num(0, 0, 0, 0, 0), "0"},
		{num(0, 0, 0, 0, 60), "0"},
		{num(1, 0, 0, 0, 0), "1"},
		{num(-1, 0, 0, 0, 0), "-1"},
		{num(0, 1, 0, 0, 0), "w"},
		{num(0, 0, -1, 0, 0), "-w2"},
		{num(0, 0, 0, 1, 0), "w3"},
		{num(1, 1, 1, 1, 0), "1+w+w2+w3"},
		{num(-1, -1, -1, -1, 0), "-1-w-w2-w3"},
		{num(2, -3, 10, -11, 0), "2-3w+10w2-11w3"},
		{num(0, 2, 0, 1, 0), "2w+w3"},
		{num(0, 0, 12, 0, 0), "12w2"},
		{num(1, 0, 0, 0, 1), "(1)/r1"},
		{num(-1, 0, 0, 1, 60), "(-1+w3)/r60"},
		{num(4, 2, 0, 0, 11), "(2+w)/r9"},
		{num(most, -most, 0, 1, 10), "(1073741824-1073741824w+w3)/r10"},
		{num(-most, 0, -most, 0, 0), "-1073741824-1073741824w2"},
	} {
		if s, e := Print(x.x); s != x.text || e != api.OK {
			t.Error(x.x, s, e)
		}
		want, _ := Least(x.x)
		got, e := Parse(x.text)
		wantNum(t, x.text, got, e, want, api.OK)
	}
	for _, x := range samples(1000) {
		s, e := Print(x)
		if e != api.OK || !isText(s) {
			t.Error(x, s, e)
		}
		want, _ := Least(x)
		got, e := Parse(s)
		wantNum(t, s, got, e, want, api.OK)
	}
}

// P1.4: what is no text of a right number.
func TestNoTexts(t *testing.T) {
	for _, s := range []string{
		"", " ", "(", ")", "()", "+", "-", "w1", "w0", "w4", "w22", "W", "1 ", " 1", "1\n", "1+ w", "\x00", "\xff", "1\xff", "é", "١",
		"+1", "+w", "-0", "00", "01", "1w", "-1w", "1+1w2", "0w", "1+0w", "0+w", "--1", "1+-w", "1-+w", "1+", "w-", "ww", "w2w", "w2w3w",
		"w+1", "w2+w", "w+w", "1+1", "w3+1+w", "1+w-w",
		"(0)/r1", "()/r1", "(1)/r0", "(1)/r", "(1)/r01", "(1)/r+1", "(1)/r-1", "(1)/r61", "(1)/r1 ", "(1)/r1)", "(1)", "(1", "1)", "1)/r1", "1/r1", "(1/r1", "((1))/r1", "(1)/r1/r1", "(1)/w1", "(1)/1", "(1)r1", "(w+1)/r1", "(+1)/r1",
		"(2)/r2", "(1+w2)/r1", "(w-w3)/r1", "(4w)/r9", "(1+w+w2+w3)/r3",
		"1073741825", "-1073741825", "1+1073741825w3", "(1+1073741825w)/r1", "(1)/r1073741825",
		"9223372036854775808", "18446744073709551617", "18446744073709551616w", "(1)/r18446744073709551617", "1" + strings.Repeat("0", 70000), strings.Repeat("w", 70000),
		strings.Repeat("1+", 40000) + "w", "1.0", "1e3", "0x1", "1_0", "i", "r", "1/2",
	} {
		got, e := Parse(s)
		wantNum(t, s[:min(len(s), 30)], got, e, api.Num{}, api.ErrForm)
	}
}

// termsForm matches terms with a sign in front of each one; overForm a text over a power of r.
var (
	termsForm = regexp.MustCompile(`^([+-][1-9][0-9]*)?(?:([+-](?:[2-9]|[1-9][0-9]+)?)w)?(?:([+-](?:[2-9]|[1-9][0-9]+)?)w2)?(?:([+-](?:[2-9]|[1-9][0-9]+)?)w3)?$`)
	overForm  = regexp.MustCompile(`^\((.*)\)/r([1-9][0-9]*)$`)
)

// isText tells by patterns, and by the oracle's least form, whether s is the text of a right number.
func isText(s string) bool {
	power := "0"
	if m := overForm.FindStringSubmatch(s); m != nil {
		s, power = m[1], m[2]
	}
	if s == "0" {
		return power == "0"
	}
	signed := s
	if !strings.HasPrefix(s, "-") {
		signed = "+" + s
	}
	m := termsForm.FindStringSubmatch(signed)
	if m == nil || s == "" {
		return false
	}
	x := num(coefficient(m[1]), coefficient(m[2]), coefficient(m[3]), coefficient(m[4]), coefficient("+"+power))
	if x.K > api.MaxRoot {
		return false
	}
	y, e := exactOf(x).least()
	return e == api.OK && y == x
}

// coefficient is the number behind a sign: 1 if there is none, 0 if there is no sign either.
func coefficient(s string) int {
	switch s {
	case "":
		return 0
	case "+", "-":
		s += "1"
	}
	n, err := strconv.Atoi(s)
	if err != nil {
		return api.MaxCoef + 1
	}
	return n
}

// everyText calls do with all texts of letters up to a length.
func everyText(letters string, length int, do func(string)) {
	do("")
	if length > 0 {
		for _, c := range letters {
			everyText(letters, length-1, func(s string) { do(string(c) + s) })
		}
	}
}

// P1.4: of all short texts, Parse takes those that are texts, and Print gives them back.
func TestAllShortTexts(t *testing.T) {
	taken := 0
	check := func(s string) {
		x, e := Parse(s)
		if isText(s) {
			taken++
			if text, f := Print(x); e != api.OK || f != api.OK || text != s {
				t.Error(s, x, e, text)
			}
		} else if e != api.ErrForm || x != (api.Num{}) {
			t.Error(s, x, e)
		}
	}
	everyText("0123w+-", 5, check)
	everyText("1w+-", 7, check)
	everyText("(1)/r0w", 5, check)
	everyText("012w+-", 4, func(s string) {
		for _, k := range []string{"", "0", "1", "2", "01", "60", "61", "+1", "9 "} {
			check("(" + s + ")/r" + k)
		}
	})
	if taken < 1000 {
		t.Error("too few texts:", taken)
	}
}

// P1.4: a text with a byte put in, changed or left out is no text, or that of another number.
func TestChangedTexts(t *testing.T) {
	for _, x := range samples(60) {
		s, _ := Print(x)
		for i := range len(s) {
			for _, c := range []string{"", "0", "1", "7", "w", "+", "-", "(", ")", "/", "r", " ", "\x80"} {
				for _, u := range []string{s[:i] + c + s[i+1:], s[:i] + c + s[i:]} {
					got, e := Parse(u)
					if want := isText(u); want != (e == api.OK) {
						t.Error(u, got, e)
					} else if back, _ := Print(got); want && back != u {
						t.Error(u, back)
					}
				}
			}
		}
	}
}
