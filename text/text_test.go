package text

import (
	"slices"
	"strings"
	"testing"

	"spoondrift/api"
)

// P5.1: the tokens of a text, with any layout.
func TestTokens(t *testing.T) {
	for _, x := range []struct {
		s string
		l []Token
	}{
		{"", nil},
		{" \n# wires 2; \t\x00\xff\u00e9\n ", nil},
		{"#", nil},
		{"# x", nil},
		{"a", []Token{{0, Word, "a"}}},
		{"z0", []Token{{0, Word, "z"}, {1, Number, "0"}}},
		{"9a", []Token{{0, Number, "9"}, {1, Word, "a"}}},
		{"a b", []Token{{0, Word, "a"}, {2, Word, "b"}}},
		{"a#\nb", []Token{{0, Word, "a"}, {3, Word, "b"}}},
		{"a#b\n#\nb#", []Token{{0, Word, "a"}, {6, Word, "b"}}},
		{"1\n2", []Token{{0, Number, "1"}, {2, Number, "2"}}},
		{"0 0", []Token{{0, Number, "0"}, {2, Number, "0"}}},
		{"::;;:", []Token{{0, ':', ":"}, {1, ':', ":"}, {2, ';', ";"}, {3, ';', ";"}, {4, ':', ":"}}},
		{";#;\n:#:", []Token{{0, ';', ";"}, {4, ':', ":"}}},
		{"abcdefgh 999 100", []Token{{0, Word, "abcdefgh"}, {9, Number, "999"}, {13, Number, "100"}}},
		{"ijklmnop:qrstuvwx;yz", []Token{{0, Word, "ijklmnop"}, {8, ':', ":"}, {9, Word, "qrstuvwx"}, {17, ';', ";"}, {18, Word, "yz"}}},
		{"12a345b678", []Token{{0, Number, "12"}, {2, Word, "a"}, {3, Number, "345"}, {6, Word, "b"}, {7, Number, "678"}}},
		{"if 12:;x0 # z\n abcdefgh", []Token{{0, Word, "if"}, {3, Number, "12"}, {5, ':', ":"}, {6, ';', ";"}, {7, Word, "x"}, {8, Number, "0"}, {15, Word, "abcdefgh"}}},
	} {
		wantTokens(t, x.s, x.l, 0, api.OK)
	}
}

// P5.1: where a text is cut wrong.
func TestCutWrong(t *testing.T) {
	for _, x := range []struct {
		s  string
		at int
	}{
		{"!", 0}, {"\t", 0}, {"\r\n", 0}, {"\x00", 0}, {"\xff", 0}, {"\u00e9", 0}, {"A", 0}, {"-1", 0}, {"`", 0}, {"{", 0}, {"/", 0}, {"<", 0},
		{"a b !", 4}, {"ab!", 2}, {"12!", 2}, {";!", 1}, {":A", 1}, {"aB", 1}, {"x\ty", 1}, {"x, y", 1}, {"x # \t\n\t", 6}, {"  \x80", 2},
		{"x\u0661", 1}, {"0\u0661", 1}, {"\ufeffx", 0}, {"\uff58", 0}, {"1.5", 1},
		{"abcdefghi", 8}, {"a b abcdefghi", 12}, {"abcdefghijklmnop!", 8}, {" zzzzzzzzzz", 9}, {";abcdefghi", 9}, {"abcdefgh\u0069", 8},
		{"1000", 3}, {"1 1234", 5}, {"123456789 abcdefghi", 3}, {"x1000", 4}, {":9999", 4},
		{"00", 1}, {"0 00", 3}, {"01", 1}, {"0000", 1}, {"x01", 2}, {"000000!", 1}, {"0123", 1},
		{"abcdefghi 00 !", 8}, {"00 abcdefghi", 1}, {"! 00", 0},
	} {
		wantTokens(t, x.s, nil, x.at, api.ErrForm)
	}
}

// P5.1: the texts of the chapter, what is right, and where others are wrong.
func TestParse(t *testing.T) {
	some := circuit(2, 1, on(api.H, 0), on(api.CX, 0, 1), look(1, 0), when(1, api.X, 0))
	wantRead(t, "wires 2 bits 1; h 0; cx 0 1; measure 1 0; if 0: x 0;", some, 0, api.OK)
	wantRead(t, "wires2bits1;h0;cx0 1;measure1 0;if0:x0;", some, 0, api.OK)
	wantRead(t, "#\nwires#\n2#\nbits#\n1#\n;h 0\n;\ncx\n0\n1 ; measure 1 0 ; if 0 : x 0 ; # end", some, 0, api.OK)
	wantRead(t, "wires 1;", circuit(1, 0), 0, api.OK)
	wantRead(t, "wires 12 bits 8;", circuit(12, 8), 0, api.OK)
	wantRead(t, "wires 1 bits 0;", circuit(1, 0), 0, api.OK)
	wantRead(t, "wires 1;#", circuit(1, 0), 0, api.OK)
	for kind := api.X; kind <= api.Reset; kind++ {
		wires := []int{11, 0, 10}[:arities[kind]]
		text := "wires 12 bits 8; " + names[kind] + []string{"", " 11", " 11 0", " 11 0 10"}[len(wires)]
		if kind == api.Measure {
			wantRead(t, text+" 7;", circuit(12, 8, look(11, 7)), 0, api.OK)
		} else {
			wantRead(t, text+";", circuit(12, 8, on(kind, wires...)), 0, api.OK)
		}
		if kind < api.Measure {
			text = strings.Replace(text, "; ", "; if 7: ", 1)
			wantRead(t, text+";", circuit(12, 8, when(8, kind, wires...)), 0, api.OK)
		}
	}
}

// P5.1: the first token with which no text goes on, or the byte at which it is cut wrong, or the length.
func TestParseWrong(t *testing.T) {
	for _, x := range []struct {
		s  string
		at int
	}{
		{"", 0}, {" ", 1}, {"# x", 3}, {"\n\n", 2}, {"!", 0}, {" ;", 1}, {" 1", 1}, {"bits 1;", 0}, {"wire", 0}, {"wiress 1;", 0}, {"x 0;", 0}, {"abcdefghi", 0}, {"00", 0},
		{"wires", 5}, {"wires ", 6}, {"wires x", 6}, {"wires wires", 6}, {"wires ;", 6}, {"wires!", 5}, {"wires 02;", 7}, {"wires 1000;", 9}, {"wires abcdefghi;", 6},
		{"wires 1", 7}, {"wires 12", 8}, {"wires 2 2;", 8}, {"wires 2:", 7}, {"wires 2 h", 8}, {"wires 2 bit 1;", 8}, {"wires 2 bitss", 8}, {"wires 2 bitsbitsb;", 8}, {"wires 2 !", 8},
		{"wires 2 bits", 12}, {"wires 2 bits;", 12}, {"wires 2 bits bits", 13}, {"wires 2 bits 00;", 14}, {"wires 2 bits 1", 14}, {"wires 2 bits 1 bits 1;", 15}, {"wires 2 bits 1:", 14},
		{"wires 2;; x 0;", 8}, {"wires 2;\n #x\n;", 13}, {"wires 2; 1", 9}, {"wires 2; 1000", 9}, {"wires 2; : x 0;", 9}, {"wires 2; wires 2;", 9}, {"wires 2; bits 1;", 9}, {"wires 2; q 0;", 9},
		{"wires 2; hh 0;", 9}, {"wires 2; abcdefghi 0;", 9}, {"wires 2; measures 0 0;", 9}, {"wires 2; resetreset 0;", 9}, {"wires 2; X 0;", 9}, {"wires 2; h 0; !", 14}, {"wires 2; h 0;!", 13},
		{"wires 2; h", 10}, {"wires 2; h!", 10}, {"wires 2; h;", 10}, {"wires 2; h h;", 11}, {"wires 2; h :", 11}, {"wires 2; x 00;", 12}, {"wires 2; x 1000;", 14}, {"wires 2; x abcdefghi;", 11},
		{"wires 2;h 0;cx 0", 16}, {"wires 2; cx 0;", 13}, {"wires 2; x 0 1;", 13}, {"wires 2; x 0 1000;", 13}, {"wires 2; x 0:", 12}, {"wires 2; x 0", 12}, {"wires 2; x 0 #;", 15}, {"wires 2; x 0 y 0;", 13},
		{"wires 2; ccx 0 1;", 16}, {"wires 2; ccx 0 1 2 3;", 19}, {"wires 2; swap 0 1 1;", 18}, {"wires 2; measure 0;", 18}, {"wires 2; measure 0 0 0;", 21}, {"wires 2; measure 0 00;", 20}, {"wires 2; reset 0 0;", 17},
		{"wires 2; if", 11}, {"wires 2; if 0", 13}, {"wires 2; if 0 x 0;", 14}, {"wires 2; if : x 0;", 12}, {"wires 2; if x 0;", 12}, {"wires 2; if 0;", 13}, {"wires 2; if 0 0: x 0;", 14}, {"wires 2; if 01: x 0;", 13},
		{"wires 2; if 0:", 14}, {"wires 2; if 0::", 14}, {"wires 2; if 0:;", 14}, {"wires 2; if 0: if", 15}, {"wires 2; if 0: if 0: x 0;", 15}, {"wires 2; if 0: 0", 15}, {"wires 2; if 0: wires 2;", 15}, {"wires 2; ifif 0: x 0;", 9},
		{"wires 13; x 0 0;", 14}, {"wires 0; !", 9}, {"wires 2; h 5; h", 15},
	} {
		wantRead(t, x.s, api.Circuit{}, x.at, api.ErrForm)
	}
}

// P5.1: a right text has the error of circ.Check, with its length.
func TestParseNotRight(t *testing.T) {
	for _, x := range []struct {
		s string
		e api.Errno
	}{
		{"wires 0;", api.ErrRange}, {"wires 13;", api.ErrRange}, {"wires 999 # x", api.ErrForm}, {"wires 999; # x", api.ErrRange}, {"wires 2 bits 9;", api.ErrRange}, {"wires 0; cx 1 1;", api.ErrRange},
		{"wires 1; cx 0 1;", api.ErrNot}, {"wires 2; h 2;", api.ErrNot}, {"wires 2; h 999;\n", api.ErrNot}, {"wires 2; if 0: x 0;", api.ErrNot}, {"wires 2 bits 1; if 1: x 0;", api.ErrNot}, {"wires 2 bits 1; if 999: x 0;", api.ErrNot},
		{"wires 2; measure 0 0;", api.ErrNot}, {"wires 2 bits 1; measure 0 1; cx 1 1;", api.ErrNot}, {"wires 2; cx 1 1;", api.ErrTwice}, {"wires 2; cx 1 1; h 2;", api.ErrTwice}, {"wires 3; ccx 0 2 0; ", api.ErrTwice},
		{"wires 1 bits 1; if 0: reset 0;", api.ErrClash}, {"wires 1 bits 1; if 0: measure 0 0; h 1;", api.ErrClash}, {"wires 1 bits 1; if 1: measure 0 0;", api.ErrNot},
		{"wires 1;" + strings.Repeat("x0;", api.MaxGates+1), api.ErrMany}, {"wires 1;" + strings.Repeat("x9;", 20000), api.ErrMany}, {"wires 13;" + strings.Repeat("x0;", api.MaxGates+1), api.ErrRange},
	} {
		wantRead(t, x.s, api.Circuit{}, len(x.s), x.e)
	}
	all := slices.Repeat([]api.Gate{on(api.X, 0)}, api.MaxGates)
	wantRead(t, "wires 1;"+strings.Repeat("x0;", api.MaxGates), circuit(1, 0, all...), 0, api.OK)
}

// P5.1: a text that is too long, whatever else is wrong with it, and one that is not.
func TestLong(t *testing.T) {
	for _, s := range []string{"!", " ", "wires 1;"} {
		long := s + strings.Repeat(" ", api.MaxBytes+1-len(s))
		wantTokens(t, long, nil, 0, api.ErrLong)
		wantRead(t, long, api.Circuit{}, 0, api.ErrLong)
	}
	full := "wires 1;" + strings.Repeat(" ", api.MaxBytes-8)
	wantRead(t, full, circuit(1, 0), 0, api.OK)
	wantTokens(t, full, []Token{{0, Word, "wires"}, {6, Number, "1"}, {7, ';', ";"}}, 0, api.OK)
	wantRead(t, full[:api.MaxBytes-1]+"!", api.Circuit{}, api.MaxBytes-1, api.ErrForm)
	wantRead(t, strings.Repeat("#", api.MaxBytes), api.Circuit{}, api.MaxBytes, api.ErrForm)
	wantTokens(t, strings.Repeat("a", api.MaxBytes), nil, api.MaxName, api.ErrForm)
	wantTokens(t, strings.Repeat("0", api.MaxBytes), nil, 1, api.ErrForm)
	wantRead(t, "wires "+strings.Repeat("9", api.MaxBytes-6), api.Circuit{}, 9, api.ErrForm)
	if l, _, e := Tokens(strings.Repeat(":", api.MaxBytes)); len(l) != api.MaxBytes || e != api.OK {
		t.Error(len(l), e)
	}
}

// P5.1: all short texts, behind some beginnings, are as the words of the chapter say.
func TestShortTexts(t *testing.T) {
	o := newOracle()
	parts := strings.Fields("wires bits if x cx ccx measure q abcdefghi 0 7 00 1000 : ; !")
	var try func(s string, more int)
	try = func(s string, more int) {
		c, at, e := o.read(s)
		wantRead(t, s, c, at, e)
		if more > 0 {
			for _, part := range parts {
				try(s+" "+part, more-1)
			}
		}
	}
	for _, beginning := range []string{"", "wires 2", "wires 2;", "wires 8 bits 8; if 7:", "wires 8 bits 8; ccx 7", "wires 8 bits 8; measure 7"} {
		try(beginning, 3)
	}
}

// P5.1: texts that were changed a little are as the words of the chapter say.
func TestChangedTexts(t *testing.T) {
	s, o := from(1), newOracle()
	right := 0
	for i := range 20000 {
		text := s.spread(s.worsen(pieces(s.circuit(4))))
		if i%2 == 0 {
			text = s.bytes(text)
		}
		c, at, e := o.read(text)
		wantRead(t, text, c, at, e)
		l, broken, at := cutOf(text)
		switch {
		case broken != 0 || at < len(text):
			wantTokens(t, text, nil, at, api.ErrForm)
		default:
			wantTokens(t, text, l, 0, api.OK)
		}
		if e == api.OK {
			right++
		}
	}
	if right < 500 || right > 19500 {
		t.Error("right texts:", right)
	}
}

// P5.4: lines and columns, from 1 on, for all indices of a text.
func TestPlace(t *testing.T) {
	for _, s := range []string{"", "x", "\n", "\n\n", "a\nb", "a\nb\n", "wires 1;\nh 0; # so\nt 0;", "\u00e9\n\xff\xfe\n\r\n\t", "no text ! at all"} {
		line, column := 1, 1
		for at := range len(s) + 1 {
			if l, c, e := Place(s, at); l != line || c != column || e != api.OK {
				t.Errorf("%q %d: %d %d, error %d; want %d %d", s, at, l, c, e, line, column)
			}
			column++
			if at < len(s) && s[at] == '\n' {
				line, column = line+1, 1
			}
		}
		for _, at := range []int{-1, len(s) + 1, greatest, smallest} {
			if l, c, e := Place(s, at); l != 0 || c != 0 || e != api.ErrRange {
				t.Errorf("%q %d: %d %d, error %d", s, at, l, c, e)
			}
		}
	}
	full := strings.Repeat("\n", api.MaxBytes)
	if l, c, e := Place(full, api.MaxBytes); l != api.MaxBytes+1 || c != 1 || e != api.OK {
		t.Error(l, c, e)
	}
	for _, at := range []int{0, -1, api.MaxBytes + 1} {
		if l, c, e := Place(full+"x", at); l != 0 || c != 0 || e != api.ErrLong {
			t.Error(l, c, e)
		}
	}
}
