package cleave

import (
	"strconv"
	"strings"
)

const (
	maxTable  = 20000 // bytes of a table's text
	maxStates = 256
)

// writeRow adds a line to a table's text: some parts, each as the function
// that is handed its number tells it.
func writeRow(text *strings.Builder, parts int, tell func(n int) string) {
	for n := range parts {
		if n > 0 {
			text.WriteByte(' ')
		}
		text.WriteString(tell(n))
	}
	text.WriteByte('\n')
}

// written is a table's text.
func (t *Table) written() string {
	var text strings.Builder
	head := []string{"cleave", strconv.Itoa(len(t.classes)), strconv.Itoa(len(t.states))}
	writeRow(&text, len(head), func(n int) string { return head[n] })
	for _, spans := range t.classes {
		writeRow(&text, len(spans), func(n int) string { return spans[n].written() })
	}
	for _, arrows := range t.states {
		writeRow(&text, len(arrows), func(n int) string { return arrows[n].written() })
	}
	return text.String()
}

func (s span) written() string {
	return strconv.FormatInt(int64(s.low), 16) + "-" + strconv.FormatInt(int64(s.high), 16)
}

func (a arrow) written() string {
	if a.breaks {
		return strconv.Itoa(a.to) + "/"
	}
	return strconv.Itoa(a.to) + "~"
}

// readTable reads a table's text: nil, if it is none. Lines are not read
// strictly, as in the end the text is held against what would be written: so
// needless zeros, or another word ahead of the numbers, are found out.
func readTable(text string) *Table {
	lines := strings.Split(text, "\n")
	classes, states, ok := readHead(lines[0])
	// Behind the last newline there is one more line, an empty one.
	if !ok || len(lines) != 1+classes+states+1 {
		return nil
	}
	read := &Table{make([][]span, classes), make([][]arrow, states)}
	for n := range read.classes {
		if read.classes[n], ok = readSpans(lines[1+n]); !ok {
			return nil
		}
	}
	for n := range read.states {
		if read.states[n], ok = readArrows(lines[1+classes+n], classes+1); !ok {
			return nil
		}
	}
	if !asTheyCome(read.states) || !asFewAsCanBe(read.states) || read.written() != text {
		return nil
	}
	return read
}

// readHead tells how many classes and states a table has, by its first line.
func readHead(line string) (classes, states int, ok bool) {
	words := strings.Split(line, " ")
	if len(words) != 3 {
		return 0, 0, false
	}
	classes, first := readNumber(words[1], 10)
	states, second := readNumber(words[2], 10)
	within := classes <= maxClasses && states >= 1 && states <= maxStates
	return classes, states, first && second && within
}

// readNumber reads a number, and tells whether it is one. No number of a table
// has more than 24 bits.
func readNumber(word string, base int) (int, bool) {
	number, err := strconv.ParseUint(word, base, 24)
	return int(number), err == nil
}

// readSpans reads the line of a class.
func readSpans(line string) ([]span, bool) {
	words := strings.Split(line, " ")
	spans := make([]span, len(words))
	for n, word := range words {
		one, ok := readSpan(word)
		if !ok {
			return nil, false
		}
		spans[n] = one
	}
	return spans, len(spans) <= maxRanges
}

func readSpan(word string) (span, bool) {
	before, behind, _ := strings.Cut(word, "-")
	low, first := readNumber(before, 16)
	high, second := readNumber(behind, 16)
	read := span{rune(low), rune(high)}
	return read, first && second && mayBe(read.low, 0) && mayBe(read.high, read.low)
}

// readArrows reads the line of a state, which must have so many arrows.
func readArrows(line string, wanted int) ([]arrow, bool) {
	words := strings.Split(line, " ")
	arrows := make([]arrow, len(words))
	for n, word := range words {
		number, breaks := strings.CutSuffix(word, "/")
		to, ok := readNumber(strings.TrimSuffix(number, "~"), 10)
		if !ok {
			return nil, false
		}
		arrows[n] = arrow{to, breaks}
	}
	return arrows, len(arrows) == wanted
}
