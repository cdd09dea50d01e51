package text

import "spoondrift/api"

// Where returns the bytes of a gate.
func Where(s string, gate int) (int, int, api.Errno) {
	w, _, e := read(s)
	if e != api.OK {
		return 0, 0, e
	}
	own, e := w.span(gate)
	return own.from, own.to, e
}

// Put returns a text with other bytes in place of a gate's.
func Put(s string, gate int, u string) (string, api.Errno) {
	from, to, e := Where(s, gate)
	if e != api.OK {
		return "", e
	}
	return right(s[:from] + u + s[to:])
}

// Insert returns a text with more bytes before a gate, or at the end.
func Insert(s string, gate int, u string) (string, api.Errno) {
	w, _, e := read(s)
	if e != api.OK {
		return "", e
	}
	if gate == len(w.spans) {
		return right(s + "\n" + u)
	}
	own, e := w.span(gate)
	if e != api.OK {
		return "", e
	}
	return right(s[:own.from] + u + "\n" + s[own.from:])
}

// right returns a text, or the error that Parse has for it.
func right(s string) (string, api.Errno) {
	if _, _, e := read(s); e != api.OK {
		return "", e
	}
	return s, api.OK
}
