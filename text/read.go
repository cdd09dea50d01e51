package text

import (
	"slices"
	"strconv"

	"spoondrift/api"
	"spoondrift/circ"
)

// taker takes a token, and says what takes the one behind it; it reports whether a text of a circuit goes on with it.
type taker func(t Token) bool

// span is the bytes from an index to the one before another one.
type span struct{ from, to int }

// whole is what a text says: a circuit, and where its gates are.
type whole struct {
	circuit api.Circuit
	spans   []span
}

// span returns where a gate is.
func (w whole) span(gate int) (span, api.Errno) {
	if gate < 0 || gate >= len(w.spans) {
		return span{}, api.ErrNot
	}
	return w.spans[gate], api.OK
}

// reader reads its source.
type reader struct {
	source
	whole                // what was read
	next  taker          // what comes next
	kinds map[string]int // by their words
	gate  api.Gate       // the gate that is read
	from  int            // where it begins
}

// read reads the circuit of a text. With an error, there is only the index that belongs to it.
func read(s string) (whole, int, api.Errno) {
	own, e := sourceOf(s)
	if e != api.OK {
		return whole{}, 0, e
	}
	r := &reader{source: own, kinds: kindsByWord()}
	if at := r.wrongAt(); at != none {
		return whole{}, at, api.ErrForm
	}
	if e := circ.Check(r.circuit); e != api.OK {
		return whole{}, len(s), e
	}
	return r.whole, 0, api.OK
}

// wrongAt reads up to where the source is not the text of a circuit, and returns this index, or none. A token must be one
// with which a text goes on before it matters how it is cut.
func (r *reader) wrongAt() int {
	at := len(r.text)
	r.next = r.begin
reading:
	for _, t := range r.tokens {
		at = len(r.text)
		switch cutAt := t.wrongAt(); {
		case !r.next(t):
			at = t.At
			break reading
		case cutAt != none:
			at = cutAt
			break reading
		case t.Kind == ';':
			at = none // a text can end behind each ; and nowhere else
		}
	}
	return at
}

// begin takes the first word.
func (r *reader) begin(t Token) bool {
	r.next = r.number(&r.circuit.Wires, r.sizes)
	return t.is(Word, "wires")
}

// number makes what takes a number, and what takes the token behind it.
func (r *reader) number(n *int, then taker) taker {
	return func(t Token) bool {
		*n, _ = strconv.Atoi(t.Text) // what is too large for it is cut wrong
		r.next = then
		return t.Kind == Number
	}
}

// sizes takes what is behind the number of wires.
func (r *reader) sizes(t Token) bool {
	if !t.is(Word, "bits") {
		return r.end(t)
	}
	r.next = r.number(&r.circuit.Bits, r.end)
	return true
}

// end takes the ; behind which a gate comes, or nothing any more.
func (r *reader) end(t Token) bool {
	r.next = r.start
	return t.is(';', ";")
}

// start takes the first token of a gate.
func (r *reader) start(t Token) bool {
	r.gate, r.from = api.Gate{}, t.At
	if !t.is(Word, "if") {
		return r.kind(t)
	}
	r.next = r.number(&r.gate.If, r.colon)
	return true
}

// colon takes the : behind the bit that a gate reads. If is one more than this bit.
func (r *reader) colon(t Token) bool {
	r.gate.If++
	r.next = r.kind
	return t.is(':', ":")
}

// kind takes the word of a gate's kind; what comes next is put together from the end.
func (r *reader) kind(t Token) bool {
	kind, known := r.kinds[t.Text]
	r.gate.Kind, r.gate.Wires = kind, make([]int, circ.Arity(kind))
	r.next = r.endOfGate
	if kind == api.Measure {
		r.next = r.number(&r.gate.Bit, r.next)
	}
	for i := range slices.Backward(r.gate.Wires) {
		r.next = r.number(&r.gate.Wires[i], r.next)
	}
	return known
}

// endOfGate takes the ; of a gate.
func (r *reader) endOfGate(t Token) bool {
	r.circuit.Gates = append(r.circuit.Gates, r.gate)
	r.spans = append(r.spans, span{r.from, t.At + 1})
	return r.end(t)
}
