package cleave

import (
	"slices"
	"unicode/utf8"
)

const (
	maxRules   = 400 // bytes of rules
	maxClasses = 6
	maxRanges  = 6 // of a class
	maxLines   = 8 // rules
	maxPlaces  = 8 // sets of all lefts
	maxDeep    = 5
	maxName    = 4 // bytes
)

// anyName names all runes of no class.
const anyName = "Any"

// reader goes through rules token by token. What is wrong with a token is
// found out ahead of reading the next one, as the leftmost error is the answer.
type reader struct {
	text    string
	now     token
	classes []string // their names
	lines   int      // rules begun
	places  int      // sets of lefts begun
	deep    int      // `(` that are open
}

// readRules tells what is wrong with rules: OK and 0, if nothing is.
func readRules(text string) (found fault) {
	defer func() {
		// Whatever is no fault is the program's own error, and must not pass for OK.
		if stop := recover(); stop != nil {
			found = stop.(fault)
		}
	}()
	r := reader{text: text, now: tokenAt(text, 0)}
	for r.now.kind == classToken {
		r.readClass()
	}
	for r.now.kind != endToken {
		r.readRule()
	}
	return fault{OK, 0}
}

// refuseIf gives the rules up at the token, if there is a reason.
func (r *reader) refuseIf(wrong bool, reason Errno) {
	if wrong {
		panic(fault{reason, r.now.at})
	}
}

// step goes on to the next token.
func (r *reader) step() {
	r.now = tokenAt(r.text, r.now.at+len(r.now.text))
}

// passSign goes over one of the signs, which must stand here.
func (r *reader) passSign(signs string) {
	r.refuseIf(!r.now.sees(signs), ErrForm)
	r.step()
}

// isKnown tells whether a name may stand in a set.
func (r *reader) isKnown(name string) bool {
	return name == anyName || slices.Contains(r.classes, name)
}

func (r *reader) readClass() {
	r.step()
	r.readClassName()
	r.passSign("=")
	r.readRanges()
	r.passSign(";")
}

func (r *reader) readClassName() {
	r.refuseIf(r.now.kind != nameToken, ErrForm)
	r.refuseIf(r.isKnown(r.now.text), ErrTwice)
	r.refuseIf(len(r.classes) == maxClasses, ErrMany)
	r.classes = append(r.classes, r.now.text)
	r.step()
}

func (r *reader) readRanges() {
	r.refuseIf(r.now.kind != runeToken, ErrForm)
	for count := 0; r.now.kind == runeToken; count++ {
		r.refuseIf(count == maxRanges, ErrMany)
		r.readRange()
	}
}

func (r *reader) readRange() {
	low := r.readRune(0)
	if r.now.sees("-") {
		r.step()
		r.readRune(low)
	}
}

// readRune reads a rune that must not be below the lowest.
func (r *reader) readRune(lowest rune) rune {
	r.refuseIf(r.now.kind != runeToken, ErrForm)
	value := r.now.value
	r.refuseIf(value < lowest || !utf8.ValidRune(value), ErrRange)
	r.step()
	return value
}

func (r *reader) readRule() {
	r.refuseIf(!r.beginsPart() && !r.now.sees("~/"), ErrForm)
	r.refuseIf(r.lines == maxLines, ErrMany)
	r.lines++
	if r.beginsPart() {
		r.readLeft()
	}
	r.passSign("~/")
	r.readSet()
	r.passSign(";")
}

func (r *reader) readLeft() {
	r.readRow()
	for r.now.sees("|") {
		r.step()
		r.readRow()
	}
}

func (r *reader) readRow() {
	r.readPart()
	for r.beginsPart() {
		r.readPart()
	}
}

func (r *reader) readPart() {
	if r.now.sees("(") {
		r.readGroup()
	} else {
		r.readPlace()
	}
	for r.now.sees("*+?") {
		r.step()
	}
}

func (r *reader) readGroup() {
	r.refuseIf(r.deep == maxDeep, ErrDeep)
	r.deep++
	r.step()
	r.readLeft()
	r.passSign(")")
	r.deep--
}

// readPlace reads a set of a left.
func (r *reader) readPlace() {
	r.refuseIf(!r.beginsSet(), ErrForm)
	r.refuseIf(r.places == maxPlaces, ErrMany)
	r.places++
	r.readSet()
}

func (r *reader) readSet() {
	switch {
	case r.now.sees("."):
		r.step()
	case r.now.sees("["):
		r.readNames()
	default:
		r.readName()
	}
}

// readNames reads a set between brackets.
func (r *reader) readNames() {
	r.step()
	if r.now.sees("^") {
		r.step()
	}
	r.readName()
	for r.now.kind == nameToken {
		r.readName()
	}
	r.passSign("]")
}

// readName reads a name in a set.
func (r *reader) readName() {
	r.refuseIf(r.now.kind != nameToken, ErrForm)
	r.refuseIf(!r.isKnown(r.now.text), ErrName)
	r.step()
}

func (r *reader) beginsSet() bool {
	return r.now.kind == nameToken || r.now.sees(".[")
}

func (r *reader) beginsPart() bool {
	return r.beginsSet() || r.now.sees("(")
}
