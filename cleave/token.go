package cleave

import (
	"strings"
	"unicode/utf8"
)

// kind is what a token is.
type kind int

const (
	endToken   kind = iota // behind the last byte
	classToken             // the word `class`
	nameToken
	runeToken
	signToken // any other byte, whether or not rules have it
)

// token is a word, a rune between two ', or a sign.
type token struct {
	kind  kind
	at    int    // its first byte's place
	text  string // its bytes
	value rune   // which rune a runeToken is
}

// sees tells whether the token is one of the signs.
func (t token) sees(signs string) bool {
	return t.kind == signToken && strings.Contains(signs, t.text)
}

// fault is why rules are given up, and where.
type fault struct {
	reason Errno
	at     int
}

// tokenAt reads the token at a place or behind the blanks there. It gives up
// at a word or rune that is none.
func tokenAt(text string, at int) token {
	for at < len(text) && (text[at] == ' ' || text[at] == '\n') {
		at++
	}
	if at == len(text) {
		return token{kind: endToken, at: at}
	}
	if text[at] == '\'' {
		return quotedAt(text, at)
	}
	if n := wordLength(text[at:]); n > 0 {
		return wordAt(text[at:at+n], at)
	}
	return token{kind: signToken, at: at, text: text[at : at+1]}
}

// wordAt tells what the word that stands at a place is.
func wordAt(word string, at int) token {
	found := token{at: at, text: word}
	value, isRune := runeOfWord(word)
	switch {
	case word == "class":
		found.kind = classToken
	case isName(word):
		found.kind = nameToken
	case isRune:
		found.kind, found.value = runeToken, value
	default:
		panic(fault{ErrForm, at})
	}
	return found
}

// quotedAt reads the rune between two ' at a place.
func quotedAt(text string, at int) token {
	value, size := utf8.DecodeRuneInString(text[at+1:])
	// A rune 0xfffd of one byte or none is no UTF-8; one of three is written out.
	broken := value == utf8.RuneError && size <= 1
	closing := at + 1 + size
	closed := closing < len(text) && text[closing] == '\''
	if broken || !closed || value == '\'' || value == '\n' {
		panic(fault{ErrForm, at})
	}
	return token{kind: runeToken, at: at, text: text[at : closing+1], value: value}
}
