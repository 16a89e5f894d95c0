// Package cleave tells where texts break, by rules: see DOC.md.
package cleave

// Errno is what a call answers: OK or the reason for a refusal.
type Errno int

const (
	OK       Errno = 0
	ErrLong  Errno = 1 // above a bound
	ErrForm  Errno = 2 // no rules
	ErrDeep  Errno = 3 // too deep
	ErrMany  Errno = 4 // too many classes, ranges, rules or places
	ErrTwice Errno = 5 // a class that is there already
	ErrName  Errno = 6 // a class that is nowhere
	ErrRange Errno = 7 // a rune or range that may not be
	ErrTable Errno = 8 // no table
)

// Check tells whether a text is rules (P3).
func Check(rules string) (Errno, int) {
	_, found := readRules(rules)
	return found.reason, found.at
}

// Compile makes a table of rules (P5).
func Compile(rules string) (*Table, Errno, int) {
	said, found := readRules(rules)
	if found.reason != OK {
		return nil, found.reason, found.at
	}
	return tableOf(said), OK, 0
}

// Decode reads a table's text (P8).
func Decode(text string) (*Table, Errno) {
	if len(text) > maxTable {
		return nil, ErrLong
	}
	read := readTable(text)
	if read == nil {
		return nil, ErrTable
	}
	return read, OK
}

// Encode writes a table (P8).
func (t *Table) Encode() string { return t.written() }

// States tells how many there are (P6).
func (t *Table) States() int { return len(t.states) }

// Breaks tells where a text breaks (P7).
func (t *Table) Breaks(text string) ([]int, Errno) {
	if len(text) > maxText {
		return nil, ErrLong
	}
	return t.breaksOf(text), OK
}
