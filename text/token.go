package text

import (
	"iter"

	"spoondrift/api"
)

// What a text is made of beside words, numbers, and the bytes that are tokens by themselves.
const (
	layoutKind = -1
	strayKind  = 0 // what cannot be there
)

// none stands where there is no index.
const none = -1

// maxDigits is how many digits a number has at most, and maxNumber the greatest number.
const (
	maxDigits = 3
	maxNumber = 999
)

// marks tells which of the bytes that are tokens by themselves a character is: first :, then ;.
type marks [2]bool

// marksOf asks a character.
func marksOf(c rune) marks { return marks{c == ':', c == ';'} }

// isMark reports whether a character is a token by itself.
func isMark(c rune) bool { return marksOf(c) != marks{} }

// layout goes along with a text, and knows whether what comes next is in a comment.
type layout struct{ comment bool }

// takes reports whether the next character is layout.
func (l *layout) takes(c rune) bool {
	if l.comment || c == '#' {
		l.comment = c != '\n'
		return true
	}
	return c == ' ' || c == '\n'
}

// kindOf returns the kind of what a character that is no layout is in.
func kindOf(c rune) int {
	switch {
	case 'a' <= c && c <= 'z':
		return Word
	case '0' <= c && c <= '9':
		return Number
	case isMark(c):
		return int(c)
	}
	return strayKind
}

// cut yields the tokens of a text, as long as they are, and each character that cannot be there as a token, too.
func cut(s string) iter.Seq[Token] {
	return func(yield func(Token) bool) {
		isLayout := new(layout).takes
		from, last := 0, layoutKind
		for i, c := range s {
			kind := layoutKind
			if !isLayout(c) {
				kind = kindOf(c)
			}
			if kind == last && (kind == Word || kind == Number) {
				continue
			}
			if last != layoutKind && !yield(Token{from, last, s[from:i]}) {
				return
			}
			from, last = i, kind
		}
		if last != layoutKind {
			yield(Token{from, last, s[from:]})
		}
	}
}

// is reports whether a token is the one with this kind and text, wherever it stands.
func (t Token) is(kind int, text string) bool { return t == Token{t.At, kind, text} }

// wrongAt returns the index of the byte at which a token is cut wrong, or none.
func (t Token) wrongAt() int {
	switch {
	case t.Kind == strayKind:
		return t.At
	case t.Kind == Word && len(t.Text) > api.MaxName:
		return t.At + api.MaxName
	case t.Kind == Number && len(t.Text) > 1 && t.Text[0] == '0':
		return t.At + 1
	case t.Kind == Number && len(t.Text) > maxDigits:
		return t.At + maxDigits
	}
	return none
}

// isWrong reports whether a token is cut wrong.
func (t Token) isWrong() bool { return t.wrongAt() != none }

// source is a text and what it is cut into.
type source struct {
	text   string
	tokens []Token
}

// sourceOf cuts a text, if it is not too long.
func sourceOf(s string) (source, api.Errno) {
	if len(s) > api.MaxBytes {
		return source{}, api.ErrLong
	}
	own := source{text: s}
	for t := range cut(s) {
		own.tokens = append(own.tokens, t)
	}
	return own, api.OK
}

// find returns the index of the first element that is as it is asked, or none.
func find[T any](l []T, ask func(T) bool) int {
	for i, x := range l {
		if ask(x) {
			return i
		}
	}
	return none
}
