package cleave

import "slices"

const (
	maxRules   = 400 // bytes of rules
	maxClasses = 6
	maxRanges  = 6 // of a class
	maxLines   = 8 // rules
	maxPlaces  = 8 // sets of all lefts
	maxDeep    = 5
	maxName    = 4 // bytes
)

// anyName names all runes of no class.
const anyName = "Any"

// reader goes through rules token by token. What is wrong with a token is
// found out ahead of reading the next one, as the leftmost error is the answer.
type reader struct {
	text  string
	now   token
	names []string // of classes
	deep  int      // `(` that are open
	said  meaning
}

// readRules tells what rules say, or what is wrong with them: OK and 0, if
// nothing is.
func readRules(text string) (said meaning, found fault) {
	if len(text) > maxRules {
		return meaning{}, fault{ErrLong, 0}
	}
	defer func() {
		// Whatever is no fault is the program's own error, and must not pass for OK.
		if stop := recover(); stop != nil {
			found = stop.(fault)
		}
	}()
	r := reader{text: text, now: tokenAt(text, 0)}
	for r.now.kind == classToken {
		r.readClass()
	}
	for r.now.kind != endToken {
		r.readRule()
	}
	return r.said, fault{OK, 0}
}

// refuseIf gives the rules up at the token, if there is a reason.
func (r *reader) refuseIf(wrong bool, reason Errno) {
	if wrong {
		panic(fault{reason, r.now.at})
	}
}

// step goes on to the next token.
func (r *reader) step() {
	r.now = tokenAt(r.text, r.now.at+len(r.now.text))
}

// passSign goes over one of the signs, which must stand here.
func (r *reader) passSign(signs string) {
	r.refuseIf(!r.now.sees(signs), ErrForm)
	r.step()
}

// classOf tells the number of the class that has a name, or -1. Any is behind
// all the others.
func (r *reader) classOf(name string) int {
	if name == anyName {
		return len(r.names)
	}
	return slices.Index(r.names, name)
}

func (r *reader) readClass() {
	r.step()
	r.readClassName()
	r.passSign("=")
	r.said.classes = append(r.said.classes, r.readRanges())
	r.passSign(";")
}

func (r *reader) readClassName() {
	r.refuseIf(r.now.kind != nameToken, ErrForm)
	r.refuseIf(r.classOf(r.now.text) >= 0, ErrTwice)
	r.refuseIf(len(r.names) == maxClasses, ErrMany)
	r.names = append(r.names, r.now.text)
	r.step()
}

func (r *reader) readRanges() []span {
	r.refuseIf(r.now.kind != runeToken, ErrForm)
	var spans []span
	for r.now.kind == runeToken {
		r.refuseIf(len(spans) == maxRanges, ErrMany)
		spans = append(spans, r.readRange())
	}
	return spans
}

func (r *reader) readRange() span {
	low := r.readRune(0)
	if !r.now.sees("-") {
		return span{low, low}
	}
	r.step()
	return span{low, r.readRune(low)}
}

// readRune reads a rune that must not be below the lowest.
func (r *reader) readRune(lowest rune) rune {
	r.refuseIf(r.now.kind != runeToken, ErrForm)
	value := r.now.value
	r.refuseIf(!mayBe(value, lowest), ErrRange)
	r.step()
	return value
}

func (r *reader) readRule() {
	r.refuseIf(!r.beginsPart() && !r.now.sees("~/"), ErrForm)
	r.refuseIf(len(r.said.rules) == maxLines, ErrMany)
	// A rule without left counts always, as one does whose left may be nothing.
	read := rule{left: left{nothing: true}}
	if r.beginsPart() {
		read.left = r.readLeft()
	}
	read.breaks = r.now.sees("/")
	r.passSign("~/")
	read.behind = r.readSet()
	r.passSign(";")
	r.said.rules = append(r.said.rules, read)
}

func (r *reader) readLeft() left {
	read := r.readRow()
	for r.now.sees("|") {
		r.step()
		read = either(read, r.readRow())
	}
	return read
}

func (r *reader) readRow() left {
	read := r.readPart()
	for r.beginsPart() {
		read = r.said.join(read, r.readPart())
	}
	return read
}

func (r *reader) readPart() left {
	var read left
	if r.now.sees("(") {
		read = r.readGroup()
	} else {
		read = r.readPlace()
	}
	for r.now.sees("*+?") {
		read = r.said.repeat(read, r.now.text)
		r.step()
	}
	return read
}

func (r *reader) readGroup() left {
	r.refuseIf(r.deep == maxDeep, ErrDeep)
	r.deep++
	r.step()
	read := r.readLeft()
	r.passSign(")")
	r.deep--
	return read
}

// readPlace reads a set of a left.
func (r *reader) readPlace() left {
	r.refuseIf(!r.beginsSet(), ErrForm)
	r.refuseIf(len(r.said.places) == maxPlaces, ErrMany)
	return r.said.addPlace(r.readSet())
}

// allClasses is what `.` stands for: the classes, and Any.
func (r *reader) allClasses() set {
	return below(len(r.names) + 1)
}

func (r *reader) readSet() set {
	switch {
	case r.now.sees("."):
		r.step()
		return r.allClasses()
	case r.now.sees("["):
		return r.readNames()
	default:
		return r.readName()
	}
}

// readNames reads a set between brackets.
func (r *reader) readNames() set {
	r.step()
	others := r.now.sees("^")
	if others {
		r.step()
	}
	named := r.readName()
	for r.now.kind == nameToken {
		named |= r.readName()
	}
	r.passSign("]")
	if others {
		return r.allClasses() &^ named
	}
	return named
}

// readName reads a name in a set.
func (r *reader) readName() set {
	r.refuseIf(r.now.kind != nameToken, ErrForm)
	class := r.classOf(r.now.text)
	r.refuseIf(class < 0, ErrName)
	r.step()
	return only(class)
}

func (r *reader) beginsSet() bool {
	return r.now.kind == nameToken || r.now.sees(".[")
}

func (r *reader) beginsPart() bool {
	return r.beginsSet() || r.now.sees("(")
}
