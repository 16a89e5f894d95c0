package cleave_test

import (
	"regexp"
	"strings"
	"testing"

	"cleave/cleave"
)

// grammar is P3's rules of rules once more, as a pattern of tokens that stand
// with a blank behind each.
var grammar = func() *regexp.Regexp {
	set := `(?:Any |B |\. |\[ (?:\^ )?(?:(?:Any|B) )+\] )`
	part := set
	left := ""
	for range 6 {
		row := `(?:` + part + `(?:\* )*)+`
		left = row + `(?:\| ` + row + `)*`
		part = `(?:` + set + `|\( ` + left + `\) )`
	}
	class := `class B = (?:'a' (?:- 'a' )?)+; `
	rule := `(?:` + left + `)?~ ` + set + `; `
	return regexp.MustCompile(`^(?:` + class + `)*(?:` + rule + `)*$`)
}()

// endings are such that one of them makes rules of every short beginning of
// rules.
var endings = func() []string {
	list := []string{"", "; ", ". ; ", "] ; ", "B ] ; ", "'a' ; ", "= 'a' ; ", "B = 'a' ; "}
	for deep := range 7 {
		for _, set := range []string{"", ". ", "] ", "B ] "} {
			list = append(list, set+strings.Repeat(") ", deep)+"~ . ; ")
		}
	}
	return list
}()

func isBeginning(tokens []string) bool {
	text := spaced(tokens)
	for _, ending := range endings {
		if grammar.MatchString(text + ending) {
			return true
		}
	}
	return false
}

func spaced(tokens []string) string {
	if len(tokens) == 0 {
		return ""
	}
	return strings.Join(tokens, " ") + " "
}

// breakOff tells at which place tokens break off as P3 asks, or -1.
func breakOff(tokens []string) int {
	if grammar.MatchString(spaced(tokens)) {
		return -1
	}
	for n := range tokens {
		if !isBeginning(tokens[:n+1]) {
			return len(spaced(tokens[:n]))
		}
	}
	return len(spaced(tokens))
}

// Check is held against the pattern at all rows of up to six tokens.
func TestFormAgainstGrammar(t *testing.T) {
	alphabet := []string{"class", "Any", "B", "'a'", "=", "-", ";", "~", ".", "[", "^", "]", "(", ")", "|", "*"}
	var try func(tokens []string)
	try = func(tokens []string) {
		text := spaced(tokens)
		e, at := cleave.Check(text)
		switch want := breakOff(tokens); {
		case e != cleave.OK && e != cleave.ErrForm:
			// Another error ahead of the form's is for the other tests.
		case want < 0 && (e != cleave.OK || at != 0), want >= 0 && (e != cleave.ErrForm || at != want):
			t.Errorf("P3: Check(%q) = %d, %d, want to break off at %d", text, e, at, want)
		}
		if e != cleave.OK && at < len(text) || len(tokens) == 6 {
			return
		}
		for _, token := range alphabet {
			try(append(tokens[:len(tokens):len(tokens)], token))
		}
	}
	try(nil)
}
