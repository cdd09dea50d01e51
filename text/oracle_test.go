package text

import (
	"fmt"
	"math/rand"
	"regexp"
	"slices"
	"strconv"
	"strings"
	"testing"

	"spoondrift/api"
	"spoondrift/circ"
)

// The greatest integer, and the smallest one.
const (
	greatest = 1<<63 - 1
	smallest = -1 << 63
)

// on is a gate on wires, when one with an If, look a Measure.
func on(kind int, wires ...int) api.Gate { return api.Gate{Kind: kind, Wires: wires} }
func when(n, kind int, wires ...int) api.Gate {
	return api.Gate{Kind: kind, Wires: wires, If: n}
}
func look(wire, bit int) api.Gate {
	return api.Gate{Kind: api.Measure, Wires: []int{wire}, Bit: bit}
}

// circuit is gates on wires and bits.
func circuit(wires, bits int, gates ...api.Gate) api.Circuit {
	return api.Circuit{Wires: wires, Bits: bits, Gates: gates}
}

// must returns a result that has no error.
func must[T any](result T, e api.Errno) T {
	if e != api.OK {
		panic(e)
	}
	return result
}

// parsed is the circuit of a right text.
func parsed(s string) api.Circuit {
	c, at, e := Parse(s)
	if at != 0 || e != api.OK {
		panic(fmt.Sprintf("%q: %d, error %d", s, at, e))
	}
	return c
}

// wantRead fails the test if Parse, or Tidy, does not find what is wanted in a text; with an error no circuit is wanted.
func wantRead(t *testing.T, s string, c api.Circuit, at int, e api.Errno) {
	t.Helper()
	got, gotAt, f := Parse(s)
	if f != e || gotAt != at || !circ.Same(got, c) {
		t.Errorf("Parse %q: %v, at %d, error %d; want %v, at %d, error %d", s, got, gotAt, f, c, at, e)
	}
	printed, _ := Print(c)
	tidy, gotAt, f := Tidy(s)
	if f != e || gotAt != at || e == api.OK && tidy != printed || e != api.OK && tidy != "" {
		t.Errorf("Tidy %q: %q, at %d, error %d; want %q, at %d, error %d", s, tidy, gotAt, f, printed, at, e)
	}
}

// wantTokens fails the test if Tokens does not find what is wanted in a text.
func wantTokens(t *testing.T, s string, l []Token, at int, e api.Errno) {
	t.Helper()
	got, gotAt, f := Tokens(s)
	if f != e || gotAt != at || !slices.Equal(got, l) {
		t.Errorf("Tokens %q: %v, at %d, error %d; want %v, at %d, error %d", s, got, gotAt, f, l, at, e)
	}
}

// The words of the chapter, as they are said there.

var (
	layouts = regexp.MustCompile(`^(?:[ \n]|#[^\n]*(?:\n|$))+`)
	word    = regexp.MustCompile(`^[a-z]{1,8}`)
	number  = regexp.MustCompile(`^(?:0|[1-9][0-9]{0,2})`)
	rest    = regexp.MustCompile(`^(?:[a-z]|[0-9]+|[:;])`)
)

// cutOf is the tokens of a text up to where it is cut wrong, and the index where it is, or its length. The kind of a token
// that is cut wrong further on is broken, which is 0 if there is none.
func cutOf(s string) (l []Token, broken, at int) {
	for at = 0; at < len(s); {
		left := s[at:]
		before := len(left)
		if found := layouts.FindString(left); found != "" {
			at += len(found)
			continue
		}
		kind, found := int(left[0]), left[:1]
		switch {
		case word.MatchString(left):
			kind, found = Word, word.FindString(left)
		case number.MatchString(left):
			kind, found = Number, number.FindString(left)
		case left[0] != ':' && left[0] != ';':
			return l, 0, at
		}
		l = append(l, Token{at, kind, found})
		at += len(found)
		if len(found) < before && kind <= Number {
			if next := left[len(found)]; kind == Word && next >= 'a' && next <= 'z' || kind == Number && next >= '0' && next <= '9' {
				return l, kind, at
			}
		}
	}
	return l, 0, at
}

// grammar is the text of a circuit, where each number is N, and a blank is behind each token.
var grammar = regexp.MustCompile(`^wires N (?:bits N )?; (?:(?:if N : )?(?:(?:x|y|z|h|s|sd|t|td|reset) N |(?:cx|cz|swap|measure) N N |ccx N N N ); )*$`)

// endings are such that each beginning of a text of a circuit, at the end of a token, becomes one by one of them.
var endings = []string{"", "; ", "N ; ", "N N ; ", "N N N ; ", "x N ; ", ": x N ; ", "N : x N ; ", "wires N ; "}

// goesOn tells whether a text of a circuit begins with such tokens.
func goesOn() func(beginning string) bool {
	known := map[string]bool{}
	return func(beginning string) bool {
		is, asked := known[beginning]
		if !asked {
			is = slices.ContainsFunc(endings, func(end string) bool { return grammar.MatchString(beginning + end) })
			known[beginning] = is
		}
		return is
	}
}

// oracle is Parse, without the length of a text.
type oracle struct{ goesOn func(string) bool }

func newOracle() oracle { return oracle{goesOn()} }

// read tells what Parse must find.
func (o oracle) read(s string) (api.Circuit, int, api.Errno) {
	l, broken, at := cutOf(s)
	beginning := ""
	for i, token := range l {
		name := token.Text
		if token.Kind == Number {
			name = "N"
		}
		if broken == Word && i == len(l)-1 {
			name = "too long"
		}
		beginning += name + " "
		if !o.goesOn(beginning) {
			return api.Circuit{}, token.At, api.ErrForm
		}
	}
	if broken != 0 || at < len(s) || !grammar.MatchString(beginning) {
		return api.Circuit{}, at, api.ErrForm
	}
	c := circuitOf(l)
	if e := circ.Check(c); e != api.OK {
		return api.Circuit{}, len(s), e
	}
	return c, 0, api.OK
}

// circuitOf is the circuit of the tokens of a text that is right.
func circuitOf(l []Token) api.Circuit {
	var c api.Circuit
	var line []string
	for _, token := range l {
		if token.Kind != ';' {
			line = append(line, token.Text)
			continue
		}
		if line[0] == "wires" {
			c.Wires = atoi(line[1])
			if len(line) > 2 {
				c.Bits = atoi(line[3])
			}
		} else {
			c.Gates = append(c.Gates, gateOf(line))
		}
		line = nil
	}
	return c
}

// names are the words of the kinds, from 1 on.
var names = strings.Fields("no x y z h s sd t td cx cz swap ccx measure reset")

// gateOf is the gate of tokens without the last one.
func gateOf(line []string) api.Gate {
	var g api.Gate
	if line[0] == "if" {
		g.If = atoi(line[1]) + 1
		line = line[3:]
	}
	g.Kind = slices.Index(names, line[0])
	for _, n := range line[1:] {
		g.Wires = append(g.Wires, atoi(n))
	}
	if g.Kind == api.Measure {
		g.Bit, g.Wires = g.Wires[1], g.Wires[:1]
	}
	return g
}

func atoi(s string) int {
	n, err := strconv.Atoi(s)
	if err != nil {
		panic(err)
	}
	return n
}

// lines are the lines of the text of a right circuit.
func lines(c api.Circuit) []string {
	l := []string{fmt.Sprintf("wires %d;", c.Wires)}
	if c.Bits > 0 {
		l[0] = fmt.Sprintf("wires %d bits %d;", c.Wires, c.Bits)
	}
	for _, g := range c.Gates {
		l = append(l, lineOf(g))
	}
	return l
}

// lineOf is the line of a gate.
func lineOf(g api.Gate) string {
	line := names[g.Kind]
	if g.If > 0 {
		line = fmt.Sprintf("if %d: %s", g.If-1, line)
	}
	for _, wire := range g.Wires {
		line += fmt.Sprintf(" %d", wire)
	}
	if g.Kind == api.Measure {
		line += fmt.Sprintf(" %d", g.Bit)
	}
	return line + ";"
}

// Samples.

// samples makes circuits and texts, always the same ones.
type samples struct{ *rand.Rand }

func from(seed int64) samples { return samples{rand.New(rand.NewSource(seed))} }

// arities are those of the kinds, from 0 on.
var arities = []int{0, 1, 1, 1, 1, 1, 1, 1, 1, 2, 2, 2, 3, 1, 1}

// gate is a right gate.
func (s samples) gate(wires, bits int) api.Gate {
	kind := 1 + s.Intn(api.Reset)
	for arities[kind] > wires || kind == api.Measure && bits == 0 {
		kind = 1 + s.Intn(api.Reset)
	}
	g := on(kind, s.Perm(wires)[:arities[kind]]...)
	if kind == api.Measure {
		g.Bit = s.Intn(bits)
	} else if kind != api.Reset && s.Intn(2) == 0 {
		g.If = s.Intn(bits + 1)
	}
	return g
}

// circuit is a right circuit with at most as many gates.
func (s samples) circuit(gates int) api.Circuit {
	c := circuit(1+s.Intn(api.MaxWires), s.Intn(api.MaxBits+1))
	for range s.Intn(gates + 1) {
		c.Gates = append(c.Gates, s.gate(c.Wires, c.Bits))
	}
	return c
}

// pieces are the tokens of the text of a right circuit.
func pieces(c api.Circuit) []string {
	line := strings.Join(lines(c), " ")
	return strings.Fields(strings.NewReplacer(":", " : ", ";", " ; ").Replace(line))
}

// gap is layout; some of it if there must be some.
func (s samples) gap(some bool) string {
	all := []string{" ", "\n", "  \n ", "# \n", "#wires 1; ## \t!\xff\u00e9\n", " #\n\n#\n"}
	gap := ""
	if some {
		gap = all[s.Intn(len(all))]
	}
	for s.Intn(2) == 0 {
		gap += all[s.Intn(len(all))]
	}
	return gap
}

// spread puts layout between tokens, before the first one and behind the last one.
func (s samples) spread(tokens []string) string {
	kind := func(token string) byte {
		switch {
		case token[0] >= 'a' && token[0] <= 'z':
			return 'a'
		case token[0] >= '0' && token[0] <= '9':
			return '0'
		}
		return token[0]
	}
	text := s.gap(false)
	for i, token := range tokens {
		some := i > 0 && kind(token) == kind(tokens[i-1]) && kind(token) != ':' && kind(token) != ';'
		if i > 0 {
			text += s.gap(some)
		}
		text += token
	}
	return text + s.gap(false) + []string{"", "#", "# x 0;"}[s.Intn(3)]
}

// odd are tokens, and what is none.
var odd = strings.Fields("wires bits if x h cx ccx measure reset swap q wire ifx sdd abcdefgh abcdefghi measuresit 0 1 7 99 999 00 01 1000 99999999999999999999 : ; ! X \t \xff é ١ - 0x")

// worsen changes a few tokens of a text.
func (s samples) worsen(tokens []string) []string {
	tokens = slices.Clone(tokens)
	for range 1 + s.Intn(2) {
		i := s.Intn(len(tokens) + 1)
		switch s.Intn(3) {
		case 0:
			tokens = slices.Insert(tokens, i, odd[s.Intn(len(odd))])
		case 1:
			tokens = slices.Delete(tokens, min(i, len(tokens)), min(i+1+s.Intn(2), len(tokens)))
		default:
			if i < len(tokens) {
				tokens[i] = odd[s.Intn(len(odd))]
			}
		}
	}
	return tokens
}

// bytes changes a few bytes of a text.
func (s samples) bytes(text string) string {
	for range 1 + s.Intn(3) {
		i := s.Intn(len(text) + 1)
		more := odd[s.Intn(len(odd))]
		switch s.Intn(4) {
		case 0:
			text = text[:i] + more + text[i:]
		case 1:
			text = text[:i] + text[min(i+1, len(text)):]
		case 2:
			text = text[:i] + more[:1] + text[min(i+1, len(text)):]
		default:
			text = text[:i]
		}
	}
	return text
}

// wrongGates are gates for which Show has an error, each one alone, and before those that come after it.
func wrongGates() map[api.Errno][]api.Gate {
	return map[api.Errno][]api.Gate{
		api.ErrRange: {
			{}, on(0, 0), on(-1, 0), on(15, 0), on(greatest, 0), on(smallest), {Kind: 15, Wires: []int{1000, -1}, Bit: -1, If: 9999},
			on(api.H, 1000), on(api.H, -1), on(api.CX, 0, greatest), on(api.CCX, 0, 999, smallest), on(api.Reset, 1000),
			{Kind: api.H, Wires: []int{0}, Bit: 1000}, {Kind: api.H, Wires: []int{0}, Bit: -1}, {Kind: api.H, Wires: []int{0}, Bit: smallest},
			look(0, 1000), look(0, -1), look(0, greatest), look(1000, 0), when(1001, api.H, 0), when(-1, api.H, 0), when(greatest, api.H, 0),
			when(smallest, api.H, 0), when(1001, api.Measure, 0), when(-1, api.Reset, 0), {Kind: api.H, Wires: []int{0}, Bit: 1, If: 1001},
			{Kind: api.Measure, Wires: []int{1000}, If: 1}, {Kind: api.Measure, Wires: []int{0}, Bit: 1000, If: 1},
		},
		api.ErrMany: {
			on(api.H), on(api.H, 0, 0), on(api.CX, 1000), on(api.CX, 0, 1, 2), on(api.CCX, 0, 1), on(api.CCX, 0, 1, 2, 3), on(api.Measure),
			on(api.Reset, -1, -1), {Kind: api.Swap, Wires: []int{0}, Bit: -1, If: -1},
		},
		api.ErrClash: {
			{Kind: api.H, Wires: []int{0}, Bit: 1}, {Kind: api.CX, Wires: []int{0, 0}, Bit: 999, If: 1}, {Kind: api.Reset, Wires: []int{0}, Bit: 1},
			when(1, api.Measure, 0), when(1000, api.Measure, 0), {Kind: api.Measure, Wires: []int{0}, Bit: 999, If: 1}, when(1, api.Reset, 999),
			{Kind: api.Reset, Wires: []int{0}, Bit: 1, If: 1},
		},
	}
}
