package cleave_test

import (
	"fmt"
	"math/rand/v2"
	"regexp"
	"strconv"
	"strings"
	"testing"

	"cleave/cleave"
)

// decoded asks that a text is a table's, and is written again.
func decoded(t *testing.T, text string) *cleave.Table {
	t.Helper()
	table, e := cleave.Decode(text)
	if table == nil || e != cleave.OK {
		t.Fatalf("P8: Decode(%q) = %v, %d, want a table", text, table, e)
	}
	if got := table.Encode(); got != text {
		t.Errorf("P8: %q is written again as %q", text, got)
	}
	return table
}

func expectNoTable(t *testing.T, text string) {
	t.Helper()
	if table, e := cleave.Decode(text); table != nil || e != cleave.ErrTable {
		t.Errorf("P8: Decode(%q) = %v, %d, want nil, %d", text, table, e, cleave.ErrTable)
	}
}

// expectReadAgain asks that a table is read again, and breaks alike.
func expectReadAgain(t *testing.T, rules string, texts []string) {
	t.Helper()
	table := compiled(t, rules)
	again := decoded(t, table.Encode())
	if again.States() != table.States() {
		t.Errorf("P8: the table of %q has %d states, read again %d", rules, table.States(), again.States())
	}
	for _, text := range texts {
		want, e := table.Breaks(text)
		if got, also := again.Breaks(text); fmt.Sprint(got) != fmt.Sprint(want) || e != also {
			t.Errorf("P8: by %q %q breaks at %v, %d, read again at %v, %d", rules, text, want, e, got, also)
		}
	}
}

var manyStates = []string{
	"class A='a';A......./.;~.;",
	sixClasses + "A......./.;~.;",
	sixClasses + "[A F]. . B . . . ./[C D];~[A B Any];",
	"class A=0x0-0x10ffff;Any......./A;~.;",
	"class A=0xd7ff-0xe000;class Zz99=0x10fffe-0x10ffff 0x0;A . . Zz99 . . ~.;",
}

func TestTablesReadAgain(t *testing.T) {
	texts := []string{
		"", "a", "é", "ab12 c", "aaaaaaaaaaaa", "ababbaab a", "abcdefgabcaddefgaeea", "\xffa\xe2\x82", "e\u0301가나", "\U0010ffff\x00\ud7ff\ue000\x00\x00",
		strings.Repeat("ab", 100), strings.Repeat("a", 201),
	}
	for _, rules := range manyStates {
		expectReadAgain(t, rules, texts)
	}
	for _, rules := range seeds {
		if e, _ := cleave.Check(rules); e == cleave.OK {
			expectReadAgain(t, rules, texts)
		}
	}
	d := drawer{Rand: rand.New(rand.NewPCG(7, 8))}
	for range 2000 {
		rules, _ := d.rules(d.IntN(7))
		expectReadAgain(t, rules, texts)
	}
}

// Tables may be read that no rules have, as those that break at each second
// rune, or just once.
func TestTablesWrittenByHand(t *testing.T) {
	for text, want := range map[string]string{
		"cleave 0 2\n1/\n0~\n":                         "ab|cd|ef",
		"cleave 0 2\n1~\n0/\n":                         "a|bc|de|f",
		"cleave 0 3\n1~\n2/\n2~\n":                     "a|bcdef",
		"cleave 1 2\n63-63\n1~ 0~\n1/ 1/\n":            "abc|d|e|f",
		"cleave 1 2\n61-62 65-65\n0/ 1~\n0~ 1/\n":      "a|bc|def",
		"cleave 2 1\n61-64\n63-66\n0~ 0/ 0~\n":         "abcd|e|f",
		"cleave 2 1\n0-10ffff\n63-66\n0/ 0~ 0~\n":      "a|b|c|d|e|f",
		"cleave 1 1\n61-61 61-66 61-65\n0/ 0~\n":       "a|b|c|d|e|f",
		"cleave 1 1\n61-61 61-66 61-65\n0~ 0/\n":       "abcdef",
		"cleave 1 1\nd7ff-e000\n0~ 0/\n":               "a|b|c|d|e|f",
		"cleave 1 1\n0-0 10ffff-10ffff\n0/ 0~\n":       "abcdef",
		"cleave 1 1\n1-2 3-4 5-6 7-8 9-a b-c\n0/ 0~\n": "abcdef",
	} {
		places, e := decoded(t, text).Breaks("abcdef")
		if got := parted("abcdef", places); got != want || e != cleave.OK {
			t.Errorf("P8: by %q abcdef breaks as %q, %d, want %q", text, got, e, want)
		}
	}
}

// chain is a table of no class: states one behind the other, and the last one
// alone without a break. Only rows as long as the table part its first states.
func chain(states int) string {
	var text strings.Builder
	fmt.Fprintf(&text, "cleave 0 %d\n", states)
	for n := 1; n < states; n++ {
		fmt.Fprintf(&text, "%d/\n", n)
	}
	fmt.Fprintf(&text, "%d~\n", states-1)
	return text.String()
}

func TestBoundsOfTables(t *testing.T) {
	for _, states := range []int{1, 2, 9, 10, 11, 99, 100, 101, 255, 256} {
		if got := decoded(t, chain(states)).States(); got != states {
			t.Errorf("P8: a table of %d states has %d", states, got)
		}
	}
	expectNoTable(t, chain(257))
	expectNoTable(t, chain(1000))
	for classes := range 9 {
		text := fmt.Sprintf("cleave %d 1\n", classes) + strings.Repeat("61-61\n", classes) + strings.Repeat("0/ ", classes) + "0/\n"
		if classes <= 6 {
			decoded(t, text)
		} else {
			expectNoTable(t, text)
		}
	}
	for ranges := range 9 {
		text := "cleave 1 1\n" + strings.TrimSuffix(strings.Repeat("61-61 ", ranges), " ") + "\n0/ 0/\n"
		if 1 <= ranges && ranges <= 6 {
			decoded(t, text)
		} else {
			expectNoTable(t, text)
		}
	}
}

func TestNoTables(t *testing.T) {
	for _, text := range []string{
		// The first line.
		"", "\n", " ", "cleave", "cleave\n", "cleave 0\n", "cleave 0 1", "cleave 0 1\n", "cleave 1\n0/\n", "0 1\n0/\n",
		"Cleave 0 1\n0/\n", "CLEAVE 0 1\n0/\n", "cleav 0 1\n0/\n", "cleaves 0 1\n0/\n", " 0 1\n0/\n", "cleave  0 1\n0/\n", "cleave 0  1\n0/\n",
		" cleave 0 1\n0/\n", "cleave 0 1 \n0/\n", "cleave 0 1 0\n0/\n", "cleave\t0 1\n0/\n", "cleave 0 1\r\n0/\r\n", "\ncleave 0 1\n0/\n", "\ufeffcleave 0 1\n0/\n",
		"cleave 00 1\n0/\n", "cleave 0 01\n0/\n", "cleave +0 1\n0/\n", "cleave 0 +1\n0/\n", "cleave -0 1\n0/\n", "cleave 0x0 1\n0/\n", "cleave 0 0x1\n0/\n", "cleave 0 1_\n0/\n",
		"cleave a 1\n0/\n", "cleave 0 a\n0/\n", "cleave 0 1.0\n0/\n", "cleave 0 １\n0/\n",
		"cleave 0 0\n", "cleave 0 0\n\n", "cleave 0 0\n0/\n", "cleave 0 2\n0/\n", "cleave 1 1\n0/\n", "cleave 1 0\n61-61\n", "cleave 0 -1\n", "cleave -1 1\n", "cleave -1 2\n0/\n", "cleave 2 -1\n0/\n",
		// Numbers beyond any bound.
		"cleave 0 256\n0/\n", "cleave 0 257\n0/\n", "cleave 7 1\n0/\n", "cleave 0 16777217\n0/\n", "cleave 16777216 1\n0/\n", "cleave 0 4294967297\n0/\n", "cleave 4294967296 1\n0/\n",
		"cleave 0 18446744073709551617\n0/\n", "cleave 18446744073709551616 1\n0/\n", "cleave 9223372036854775807 9223372036854775807\n0/\n", "cleave 0 " + strings.Repeat("9", 5000) + "\n0/\n",
		"cleave 0 1\n16777216/\n", "cleave 0 1\n4294967296/\n", "cleave 0 1\n18446744073709551616/\n", "cleave 0 1\n" + strings.Repeat("9", 5000) + "/\n", "cleave 0 1\n" + strings.Repeat("0", 5000) + "/\n",
		"cleave 1 1\n61-1000061\n0~ 0/\n", "cleave 1 1\n100000061-100000061\n0~ 0/\n", "cleave 1 1\n61-10000000000000061\n0~ 0/\n", "cleave 1 1\n61-" + strings.Repeat("f", 5000) + "\n0~ 0/\n",
		// Classes.
		"cleave 1 1\n61-60\n0~ 0/\n", "cleave 1 1\n10ffff-0\n0~ 0/\n", "cleave 1 1\n61-61 63-62\n0~ 0/\n", "cleave 1 1\n61-110000\n0~ 0/\n", "cleave 1 1\n110000-110000\n0~ 0/\n", "cleave 1 1\nffffff-ffffff\n0~ 0/\n",
		"cleave 1 1\nd800-d800\n0~ 0/\n", "cleave 1 1\nd800-e000\n0~ 0/\n", "cleave 1 1\nd7ff-d800\n0~ 0/\n", "cleave 1 1\ndfff-e000\n0~ 0/\n", "cleave 1 1\n61-dfff\n0~ 0/\n", "cleave 1 1\n61-61 dabc-dabc\n0~ 0/\n",
		"cleave 1 1\n\n0~ 0/\n", "cleave 1 1\n \n0~ 0/\n", "cleave 1 1\n0~ 0/\n", "cleave 1 1\n61\n0~ 0/\n", "cleave 1 1\n61-\n0~ 0/\n", "cleave 1 1\n-61\n0~ 0/\n", "cleave 1 1\n-\n0~ 0/\n", "cleave 1 1\n61--61\n0~ 0/\n", "cleave 1 1\n61-61-61\n0~ 0/\n", "cleave 1 1\n61-62-\n0~ 0/\n",
		"cleave 1 1\n061-61\n0~ 0/\n", "cleave 1 1\n61-061\n0~ 0/\n", "cleave 1 1\n00-0\n0~ 0/\n", "cleave 1 1\n0x61-0x61\n0~ 0/\n", "cleave 1 1\n6A-6a\n0~ 0/\n", "cleave 1 1\n6a-6B\n0~ 0/\n", "cleave 1 1\n6A-6A\n0~ 0/\n", "cleave 1 1\n6g-6h\n0~ 0/\n", "cleave 1 1\n'a'-'a'\n0~ 0/\n", "cleave 1 1\n6_1-61\n0~ 0/\n", "cleave 1 1\n+61-61\n0~ 0/\n",
		"cleave 1 1\n 61-61\n0~ 0/\n", "cleave 1 1\n61-61 \n0~ 0/\n", "cleave 1 1\n61-61  62-62\n0~ 0/\n", "cleave 1 1\n61 -61\n0~ 0/\n", "cleave 1 1\n61- 61\n0~ 0/\n", "cleave 1 1\n61-61\t62-62\n0~ 0/\n", "cleave 1 1\n61-61,62-62\n0~ 0/\n",
		"cleave 1 1\n\n61-61\n0~ 0/\n", "cleave 1 1\n61-61\n\n0~ 0/\n", "cleave 1 1\n61-61\n62-62\n0~ 0/\n", "cleave 2 1\n61-61\n0~ 0/ 0/\n", "cleave 2 1\n61-61 62-62\n0~ 0/ 0/\n", "cleave 1 1\n0~ 0/\n61-61\n",
		"cleave 1 1\n1-1 2-2 3-3 4-4 5-5 6-6 7-7\n0~ 0/\n", "cleave 1 1\n1-1 2-2 3-3 4-4 5-5 6-6 \n0~ 0/\n", "cleave 7 1\n61-61\n61-61\n61-61\n61-61\n61-61\n61-61\n61-61\n0/ 0/ 0/ 0/ 0/ 0/ 0/ 0/\n",
		// Arrows.
		"cleave 0 1\n0\n", "cleave 0 1\n/\n", "cleave 0 1\n~\n", "cleave 0 1\n\n", "cleave 0 1\n0-\n", "cleave 0 1\n0/~\n", "cleave 0 1\n0~/\n", "cleave 0 1\n0//\n", "cleave 0 1\n0~~\n", "cleave 0 1\n/0\n", "cleave 0 1\n~0\n", "cleave 0 1\n0 /\n", "cleave 0 1\n0|\n", "cleave 0 1\n0\\\n",
		"cleave 0 1\n00/\n", "cleave 0 1\n+0/\n", "cleave 0 1\n-0/\n", "cleave 0 1\n0x0/\n", "cleave 0 1\na/\n", "cleave 0 2\n1/\n01~\n", "cleave 0 1\n-1/\n",
		"cleave 0 1\n 0/\n", "cleave 0 1\n0/ \n", "cleave 0 1\n0/\r\n", "cleave 0 1\n0/ 0/\n", "cleave 1 1\n61-61\n0~\n", "cleave 1 1\n61-61\n0~ 0/ 0/\n", "cleave 1 1\n61-61\n0~  0/\n", "cleave 1 1\n61-61\n0~0/\n", "cleave 1 1\n61-61\n0~\n0/\n", "cleave 1 1\n61-61\n0~\t0/\n",
		// Lines too many or too few, and something behind the last.
		"cleave 0 1\n0/", "cleave 0 1\n\n0/\n", "cleave 0 1\n0/\n\n", "cleave 0 1\n0/\n0/\n", "cleave 0 1\n0/\n ", "cleave 0 1\n0/\n0", "cleave 0 1\n0/\nmore", "cleave 0 1\n0/\n\x00", "cleave 0 1\n0/\ncleave 0 1\n0/\n", "cleave 0 2\n1/\n1~\n0/\n", "cleave 0 3\n1/\n1~\n",
		// States that are not there, or not met, or not as they come.
		"cleave 0 1\n1/\n", "cleave 0 1\n1~\n", "cleave 0 1\n255/\n", "cleave 0 1\n256/\n", "cleave 0 2\n2/\n1~\n", "cleave 0 2\n1/\n2~\n", "cleave 1 1\n61-61\n0~ 1/\n", "cleave 1 2\n61-61\n1~ 0/\n0/ 2/\n",
		"cleave 0 2\n0/\n1~\n", "cleave 0 2\n0/\n0~\n", "cleave 0 3\n1/\n1~\n2~\n", "cleave 0 3\n1/\n0~\n1/\n", "cleave 1 3\n61-61\n0/ 0~\n2/ 1~\n0~ 0~\n",
		"cleave 1 3\n61-61\n2~ 1~\n1/ 2~\n0~ 0/\n", "cleave 0 3\n2/\n0~\n1~\n", "cleave 1 3\n61-61\n0/ 2/\n1~ 0/\n1~ 2~\n",
		// More states than there need be.
		"cleave 0 2\n1/\n1/\n", "cleave 0 2\n1/\n0/\n", "cleave 0 2\n1~\n0~\n", "cleave 0 3\n1/\n2/\n0/\n", "cleave 0 4\n1/\n2~\n3/\n0~\n", "cleave 0 4\n1/\n2/\n3~\n3~\n", "cleave 1 2\n61-61\n1~ 0/\n0~ 1/\n", "cleave 1 3\n61-61\n1/ 2/\n1~ 2/\n1~ 2/\n",
		"cleave 1 4\n61-61\n1/ 2/\n0~ 3/\n0~ 3/\n3/ 3/\n", "cleave 1 3\n61-61\n1/ 2/\n1~ 0/\n2~ 0/\n",
	} {
		expectNoTable(t, text)
	}
}

// A table's text that is cut off, or goes on, is none.
func TestTablesCutOff(t *testing.T) {
	for _, rules := range append(manyStates[1:2:2], "", "class A='a'-'c' 'e';A~A;Any/.;~.;", sixClasses) {
		text := compiled(t, rules).Encode()
		for n := range len(text) {
			expectNoTable(t, text[:n])
			if n > 0 && n < 300 {
				expectNoTable(t, text[n:])
				expectNoTable(t, text+text[:n])
			}
		}
		for b := range 256 {
			expectNoTable(t, text+string([]byte{byte(b)}))
			expectNoTable(t, string([]byte{byte(b)})+text)
		}
		decoded(t, text)
	}
}

func TestLongTables(t *testing.T) {
	text := compiled(t, manyStates[1]).Encode()
	if len(text) > 20000 {
		t.Fatalf("P8: a table's text has %d bytes", len(text))
	}
	for _, fill := range []string{"\n", " ", "0", "x", "\xff"} {
		for n, want := range map[int]cleave.Errno{19999: cleave.ErrTable, 20000: cleave.ErrTable, 20001: cleave.ErrLong, 40000: cleave.ErrLong} {
			for _, long := range []string{text + strings.Repeat(fill, n-len(text)), strings.Repeat(fill, n)} {
				if table, e := cleave.Decode(long); table != nil || e != want {
					t.Errorf("P8: Decode of %d bytes = %v, %d, want nil, %d", n, table, e, want)
				}
			}
		}
	}
	long := strings.Repeat("cleave 0 1\n0/\n", 1<<16)
	if n := testing.AllocsPerRun(10, func() { cleave.Decode(long) }); n != 0 {
		t.Errorf("P1: Decode of too long a text took memory %v times", n)
	}
}

const (
	digits = `(?:0|[1-9][0-9]*)`
	hex    = `(?:0|[1-9a-f][0-9a-f]*)`
	ranges = hex + `-` + hex
	arrows = digits + `[/~]`
)

var tableForm = regexp.MustCompile(`\Acleave ([0-6]) ([1-9][0-9]{0,2})\n` +
	`((?:` + ranges + `(?: ` + ranges + `){0,5}\n)*)((?:` + arrows + `(?: ` + arrows + `)*\n)+)\z`)

// isTable is P8 once more: by a pattern, and by grid's ways to look at states.
func isTable(t *testing.T, text string) bool {
	found := tableForm.FindStringSubmatch(text)
	if found == nil {
		return false
	}
	classes, states := strings.Count(found[3], "\n"), strings.Count(found[4], "\n")
	if found[1] != strconv.Itoa(classes) || found[2] != strconv.Itoa(states) || states > 256 {
		return false
	}
	for _, one := range strings.FieldsFunc(found[3], func(r rune) bool { return r == ' ' || r == '\n' }) {
		var low, high int
		if n, _ := fmt.Sscanf(one, "%x-%x", &low, &high); n != 2 || low > high || high > 0x10ffff || low>>11 == 0x1b || high>>11 == 0x1b {
			return false
		}
	}
	for _, line := range strings.Split(strings.TrimSuffix(found[4], "\n"), "\n") {
		words := strings.Split(line, " ")
		for _, word := range words {
			if to, err := strconv.Atoi(word[:len(word)-1]); err != nil || to >= states {
				return false
			}
		}
		if len(words) != classes+1 {
			return false
		}
	}
	read := gridOf(t, text)
	return read.numberedAsMet() && read.partsAllStates()
}

// expectAsForm asks that Decode takes a text for a table's just if it is one.
func expectAsForm(t *testing.T, text string) bool {
	t.Helper()
	is := isTable(t, text)
	if is {
		decoded(t, text)
	} else {
		expectNoTable(t, text)
	}
	return is
}

// Tables' texts with each byte left out, doubled or replaced, with two lines
// changed for each other, and with one left out or doubled.
func TestDamagedTables(t *testing.T) {
	tables, none := 0, 0
	use := func(text string) {
		if expectAsForm(t, text) {
			tables++
		} else {
			none++
		}
	}
	for _, rules := range []string{
		"", "~.;", "class A='a';A~A;", "class A='a';A A/A;A~A;~Any;", "class A='a' 'c'-'f' 0x0 0x10ffff;class B=0xd7ff-0xe000;A B~A;B*/B;~Any;",
		"class A='a';A../.;~.;", aAndB + "A B A/Any;~.;", "........~.;", sixClasses + "A~B;B~C;C~D;D~E;E~F;",
	} {
		text := compiled(t, rules).Encode()
		for i := range len(text) {
			use(text[:i] + text[i+1:])
			use(text[:i+1] + text[i:])
			for _, b := range "0123456789abdefAFgx+-_/~ \n\r\t\x00é" {
				use(text[:i] + string(b) + text[i+1:])
				use(text[:i] + string(b) + text[i:])
			}
		}
		lines := strings.SplitAfter(text, "\n")
		for i := range lines {
			use(strings.Join(append(lines[:i:i], lines[i+1:]...), ""))
			use(strings.Join(append(lines[:i+1:i+1], lines[i:]...), ""))
			for j := range i {
				lines[i], lines[j] = lines[j], lines[i]
				use(strings.Join(lines, ""))
				lines[i], lines[j] = lines[j], lines[i]
			}
		}
	}
	if tables < 300 || none < 3000 {
		t.Errorf("P8: only %d tables and %d others were seen", tables, none)
	}
}

// allTables hands over all texts of so many classes and states that have the
// form of a table's, whatever the arrows.
func allTables(classes, states int, use func(text string)) {
	head := fmt.Sprintf("cleave %d %d\n", classes, states) + strings.Repeat("61-61\n", classes)
	arrows := states * (classes + 1)
	var longer func(text string, n int)
	longer = func(text string, n int) {
		if n == arrows {
			use(text)
			return
		}
		behind := " "
		if n%(classes+1) == classes {
			behind = "\n"
		}
		for to := range states {
			longer(text+strconv.Itoa(to)+"/"+behind, n+1)
			longer(text+strconv.Itoa(to)+"~"+behind, n+1)
		}
	}
	longer(head, 0)
}

func TestAllSmallTables(t *testing.T) {
	for _, c := range []struct {
		classes, states, tables int
	}{
		{0, 1, 2}, {1, 1, 4}, {2, 1, 8}, {6, 1, 128}, {0, 2, 4}, {0, 3, 12}, {0, 4, 30}, {1, 2, 144}, {2, 2, 3136}, {1, 3, 11352},
	} {
		tables := 0
		allTables(c.classes, c.states, func(text string) {
			if expectAsForm(t, text) {
				tables++
			}
		})
		if tables != c.tables {
			t.Errorf("P8: of %d classes and %d states there are %d tables, want %d", c.classes, c.states, tables, c.tables)
		}
	}
}
