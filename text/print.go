package text

import (
	"slices"
	"strconv"
	"strings"

	"spoondrift/api"
	"spoondrift/circ"
)

// words has the word of each kind of gates.
var words = [...]string{
	api.X:       "x",
	api.Y:       "y",
	api.Z:       "z",
	api.H:       "h",
	api.S:       "s",
	api.Sd:      "sd",
	api.T:       "t",
	api.Td:      "td",
	api.CX:      "cx",
	api.CZ:      "cz",
	api.Swap:    "swap",
	api.CCX:     "ccx",
	api.Measure: "measure",
	api.Reset:   "reset",
}

// kindsByWord returns the kinds of gates by their words.
func kindsByWord() map[string]int {
	kinds := map[string]int{}
	for kind := api.X; kind < len(words); kind++ {
		kinds[words[kind]] = kind
	}
	return kinds
}

// Print returns the text of a circuit.
func Print(c api.Circuit) (string, api.Errno) {
	if e := circ.Check(c); e != api.OK {
		return "", e
	}
	var text strings.Builder
	text.WriteString(printSizes(c) + "\n")
	write := func(number int) { text.WriteString(printGate(c.Gates[number]) + "\n") }
	for number := range len(c.Gates) {
		write(number)
	}
	return text.String(), api.OK
}

// Show returns the text of a gate.
func Show(g api.Gate) (string, api.Errno) {
	if e := checkGate(g); e != api.OK {
		return "", e
	}
	return printGate(g), api.OK
}

// checkGate returns the error of a gate, whatever the circuit is that it is for.
func checkGate(g api.Gate) api.Errno {
	arity := circ.Arity(g.Kind)
	measures := g.Kind == api.Measure
	finds := measures || g.Kind == api.Reset
	switch {
	case arity == 0:
		return api.ErrRange
	case len(g.Wires) != arity:
		return api.ErrMany
	case find(g.Wires, isNoNumber) != none || isNoNumber(g.Bit) || g.If != 0 && isNoNumber(g.If-1):
		return api.ErrRange
	case !measures && g.Bit != 0 || finds && g.If != 0:
		return api.ErrClash
	}
	return api.OK
}

// isNoNumber reports whether there is no token for a number.
func isNoNumber(n int) bool { return n < 0 || n > maxNumber }

// printSizes returns the first line of a circuit's text.
func printSizes(c api.Circuit) string {
	if c.Bits == 0 {
		return join("wires", strconv.Itoa(c.Wires), ";")
	}
	return join("wires", strconv.Itoa(c.Wires), "bits", strconv.Itoa(c.Bits), ";")
}

// printGate returns the line of a gate.
func printGate(g api.Gate) string {
	var tokens []string
	if g.If != 0 {
		tokens = append(tokens, "if", strconv.Itoa(g.If-1), ":")
	}
	tokens = append(tokens, words[g.Kind])
	numbers := slices.Clone(g.Wires)
	if g.Kind == api.Measure {
		numbers = append(numbers, g.Bit)
	}
	for _, n := range numbers {
		tokens = append(tokens, strconv.Itoa(n))
	}
	return join(append(tokens, ";")...)
}

// join puts tokens behind one another, with a blank between each two, but none before : and ;.
func join(tokens ...string) string {
	var text strings.Builder
	for i, token := range tokens {
		if i > 0 && !isMark(rune(token[0])) {
			text.WriteByte(' ')
		}
		text.WriteString(token)
	}
	return text.String()
}
