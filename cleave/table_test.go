package cleave_test

import (
	"fmt"
	"math/rand/v2"
	"slices"
	"strconv"
	"strings"
	"testing"
)

// grid is a table's text taken apart.
type grid struct {
	classes []string
	states  [][]cell
}

// cell is an arrow: a row of them has one for each class, the last for Any.
type cell struct {
	to     int
	breaks bool
}

// gridOf takes a text apart that must have the form of a table's.
func gridOf(t *testing.T, text string) grid {
	t.Helper()
	var classes, states int
	lines := strings.Split(text, "\n")
	if _, err := fmt.Sscanf(lines[0], "cleave %d %d", &classes, &states); err != nil || len(lines) != classes+states+2 {
		t.Fatalf("P8: %q is no table's text", text)
	}
	read := grid{classes: lines[1 : 1+classes]}
	for _, line := range lines[1+classes : 1+classes+states] {
		var row []cell
		for _, word := range strings.Split(line, " ") {
			to, err := strconv.Atoi(word[:len(word)-1])
			if err != nil || to >= states {
				t.Fatalf("P8: %q is no table's text: %q", text, word)
			}
			row = append(row, cell{to, word[len(word)-1] == '/'})
		}
		if len(row) != classes+1 {
			t.Fatalf("P8: %q is no table's text: %q", text, line)
		}
		read.states = append(read.states, row)
	}
	return read
}

// numberedAsMet tells whether going through the states from 0 on, and through
// the classes of each, meets all of them in their order.
func (g grid) numberedAsMet() bool {
	met := []int{0}
	number := map[int]int{0: 0}
	for n := 0; n < len(met); n++ {
		for _, over := range g.states[met[n]] {
			if _, is := number[over.to]; !is {
				number[over.to] = len(met)
				met = append(met, over.to)
			}
		}
	}
	for n, state := range met {
		if n != state {
			return false
		}
	}
	return len(met) == len(g.states)
}

// partsAllStates tells whether some row of classes parts each two states: two
// are marked if a class does, or leads to two that are marked.
func (g grid) partsAllStates() bool {
	marked := map[[2]int]bool{}
	parts := func(one, other int) bool {
		for class, over := range g.states[one] {
			and := g.states[other][class]
			if over.breaks != and.breaks || marked[[2]int{over.to, and.to}] {
				return true
			}
		}
		return false
	}
	for more := true; more; {
		more = false
		for one := range g.states {
			for other := range one {
				if !marked[[2]int{one, other}] && parts(one, other) {
					marked[[2]int{one, other}], marked[[2]int{other, one}] = true, true
					more = true
				}
			}
		}
	}
	return len(marked) == len(g.states)*(len(g.states)-1)
}

// breaksOf goes through a row of classes: whether there is a break ahead of
// each, the first one too.
func (g grid) breaksOf(row []int) []bool {
	var breaks []bool
	state := 0
	for _, class := range row {
		breaks = append(breaks, g.states[state][class].breaks)
		state = g.states[state][class].to
	}
	return breaks
}

type tableCase struct {
	rules, want string
}

// expectTables asks for the text and the number of states of rules' tables.
func expectTables(t *testing.T, promise string, cases []tableCase) {
	t.Helper()
	for _, c := range cases {
		table := compiled(t, c.rules)
		if got := table.Encode(); got != c.want {
			t.Errorf("%s: the table of %q is %q, want %q", promise, c.rules, got, c.want)
		}
		if got, want := table.States(), len(gridOf(t, c.want).states); got != want {
			t.Errorf("%s: the table of %q has %d states, want %d", promise, c.rules, got, want)
		}
	}
}

func TestTablesOfExamples(t *testing.T) {
	expectTables(t, "P6", []tableCase{
		{"class A = 'a'; (A A)* ~ A;", "cleave 1 1\n61-61\n0~ 0/\n"},
		{"class A = 'a'; A / A; ~ .;", "cleave 1 2\n61-61\n1~ 0~\n1/ 0~\n"},
		{
			"class A = 'a'-'z'; class N = '0'-'9'; A ~ A; N ~ N; A N* ~ A;",
			"cleave 2 4\n61-7a\n30-39\n1/ 2/ 0/\n1~ 3/ 0/\n1/ 2~ 0/\n1~ 3~ 0/\n",
		},
	})
}

func TestTablesWithoutClass(t *testing.T) {
	expectTables(t, "P6", []tableCase{
		{"", "cleave 0 1\n0/\n"},
		{" \n", "cleave 0 1\n0/\n"},
		{"~.;", "cleave 0 1\n0~\n"},
		{"/.;", "cleave 0 1\n0/\n"},
		{"~Any;", "cleave 0 1\n0~\n"},
		{"~[^Any];", "cleave 0 1\n0/\n"},
		{".~.;", "cleave 0 2\n1/\n1~\n"},
		{"..~.;", "cleave 0 3\n1/\n2/\n2~\n"},
		{".../.;~.;", "cleave 0 4\n1~\n2~\n3~\n3/\n"},
		{"........~.;", "cleave 0 9\n1/\n2/\n3/\n4/\n5/\n6/\n7/\n8/\n8~\n"},
		{"../.;.~.;", "cleave 0 3\n1/\n2~\n2/\n"},
	})
}

func TestTablesWithoutRule(t *testing.T) {
	expectTables(t, "P6", []tableCase{
		{"class A='a';", "cleave 1 1\n61-61\n0/ 0/\n"},
		{aAndB, "cleave 2 1\n61-61\n62-62\n0/ 0/ 0/\n"},
		{sixClasses, "cleave 6 1\n61-61\n62-62\n63-63\n64-64\n65-65\n66-66\n0/ 0/ 0/ 0/ 0/ 0/ 0/\n"},
	})
}

// States that break all rows of classes alike are one.
func TestStatesThatAreOne(t *testing.T) {
	one := "cleave 1 1\n61-61\n0/ 0/\n"
	expectTables(t, "P6", []tableCase{
		{"class A='a';A/A;", one},
		{"class A='a';A A?Any+/.;", one},
		{"class A='a';A~[^A Any];", one},
		{"class A='a';[^A Any]~.;", one},
		{"class A='a';. . . . . . . ./A;", one},
		{"class A='a';/.;A~A;Any A~.;", one},
		{"class A='a';A/.;A~A;", one},
		{"class A='a';~A;A/A;A A/A;", "cleave 1 1\n61-61\n0~ 0/\n"},
		{"class A='a';A~A;Any A~A;A A A~A;", "cleave 1 2\n61-61\n1/ 0/\n1~ 0/\n"},
		{"class A='a';A+~A;", "cleave 1 2\n61-61\n1/ 0/\n1~ 0/\n"},
		{"class A='a';(A|A A|A A A)+~A;", "cleave 1 2\n61-61\n1/ 0/\n1~ 0/\n"},
		{aAndB + "A~A;B~A;", "cleave 2 2\n61-61\n62-62\n1/ 1/ 0/\n1~ 1/ 0/\n"},
		{aAndB + "A B~A;B~A;", "cleave 2 2\n61-61\n62-62\n0/ 1/ 0/\n0~ 1/ 0/\n"},
		// Which rune stands ahead does not matter here, only that one does.
		{"class A='a';.~Any;A~A;Any~A;", "cleave 1 2\n61-61\n1/ 1/\n1~ 1~\n"},
	})
}

// Some states are parted only by what stands several classes further on.
func TestStatesThatPartLate(t *testing.T) {
	expectTables(t, "P6", []tableCase{
		{"class A='a';A.~.;", "cleave 1 4\n61-61\n1/ 0/\n2/ 3/\n2~ 3~\n1~ 0~\n"},
		{"class A='a';A A A~A;", "cleave 1 4\n61-61\n1/ 0/\n2/ 0/\n3/ 0/\n3~ 0/\n"},
		{aAndB + "A B A B/A;~.;", "cleave 2 5\n61-61\n62-62\n1~ 0~ 0~\n1~ 2~ 0~\n3~ 0~ 0~\n1~ 4~ 0~\n3/ 0~ 0~\n"},
	})
	left := "A"
	for states := 2; states <= 256; states *= 2 {
		for _, classes := range []string{"class A='a';", sixClasses} {
			table := compiled(t, classes+left+"/.;~.;")
			if table.States() != states {
				t.Errorf("P6: with the left %q a table has %d states, want %d", left, table.States(), states)
			}
		}
		left += "."
	}
}

// A class that no text can have counts as any other.
func TestTablesOfHiddenClasses(t *testing.T) {
	expectTables(t, "P6", []tableCase{
		{"class A='a';class B='a';B~A;", "cleave 2 2\n61-61\n61-61\n0/ 1/ 0/\n0~ 1/ 0/\n"},
		{"class A='a'-'z';class B='c' 'e'-'g';~B;", "cleave 2 1\n61-7a\n63-63 65-67\n0/ 0~ 0/\n"},
		{"class A=0x0-0x10ffff;Any~A;", "cleave 1 2\n0-10ffff\n0/ 1/\n0~ 1/\n"},
		{"class A='a'-'c';class B='d';class C='b'-'d';C C/C;~.;", "cleave 3 3\n61-63\n64-64\n62-64\n0~ 0~ 1~ 0~\n0~ 0~ 2~ 0~\n0~ 0~ 2/ 0~\n"},
	})
}

// Ahead of the first rune those rules count whose left may be nothing.
func TestArrowsAheadOfFirstRune(t *testing.T) {
	expectTables(t, "P6", []tableCase{
		{"class A='a';~A;", "cleave 1 1\n61-61\n0~ 0/\n"},
		{"class A='a';A?~A;", "cleave 1 1\n61-61\n0~ 0/\n"},
		{"class A='a';A*|Any~.;", "cleave 1 1\n61-61\n0~ 0~\n"},
		{"class A='a';.~A;", "cleave 1 2\n61-61\n1/ 1/\n1~ 1/\n"},
		{"class A='a';./A;~.;", "cleave 1 2\n61-61\n1~ 1~\n1/ 1~\n"},
		{"class A='a';A/.;A*~A;", "cleave 1 2\n61-61\n1~ 0/\n1/ 0/\n"},
		{"class A='a';(A?)+Any*~A;./.;~Any;", "cleave 1 2\n61-61\n1~ 1~\n1~ 1/\n"},
	})
}

// States have their numbers as they come, by the order of the classes, not by
// that of the rules.
func TestNumbersOfStates(t *testing.T) {
	three := "class C='c';class A='a';class B='b';"
	ranges := "63-63\n61-61\n62-62\n"
	expectTables(t, "P6", []tableCase{
		{three + "B~B;A~A;C~C;", "cleave 3 4\n" + ranges + "1/ 2/ 3/ 0/\n1~ 2/ 3/ 0/\n1/ 2~ 3/ 0/\n1/ 2/ 3~ 0/\n"},
		{three + "Any~Any;B~A;A~B;", "cleave 3 4\n" + ranges + "0/ 1/ 2/ 3/\n0/ 1/ 2~ 3/\n0/ 1~ 2/ 3/\n0/ 1/ 2/ 3~\n"},
		{three + "B C~A;", "cleave 3 3\n" + ranges + "0/ 0/ 1/ 0/\n2/ 0/ 1/ 0/\n0/ 0~ 1/ 0/\n"},
		{"class A='a';Any~A;A~Any;", "cleave 1 3\n61-61\n1/ 2/\n1/ 2~\n1~ 2/\n"},
	})
}

// Ranges are told as they stand in the rules, be they one in the other.
func TestRangesOfTables(t *testing.T) {
	line := func(ranges, want string) tableCase {
		return tableCase{"class A=" + ranges + ";", "cleave 1 1\n" + want + "\n0/ 0/\n"}
	}
	expectTables(t, "P8", []tableCase{
		line("'a' 'c'-'e' 0x0 0x10ffff 0xd7ff-0xe000 0x00a", "61-61 63-65 0-0 10ffff-10ffff d7ff-e000 a-a"),
		line("'b'-'c' 'a' 'a' 'a'-'z'", "62-63 61-61 61-61 61-7a"),
		line("'가'-0xd7a3 0x0001 0x1f600-0x1f64f", "ac00-d7a3 1-1 1f600-1f64f"),
		line("'\ufffd' ' ' '\U0010ffff'", "fffd-fffd 20-20 10ffff-10ffff"),
		line("0x0abcde-0x0fedcb 0x000000-0x000f", "abcde-fedcb 0-f"),
	})
}

// P6 of rules drawn by chance: the table breaks all short rows as the rules
// say, ahead of the first class too; some row parts each two states; and they
// are numbered as they come. So there is no table with fewer.
func TestTablesAgainstPatterns(t *testing.T) {
	d := drawer{Rand: rand.New(rand.NewPCG(3, 4))}
	most := 0
	for turn := range 2000 {
		classes := []int{0, 1, 1, 2, 2, 2, 3, 6}[turn%8]
		rules, means := d.rules(classes)
		table := compiled(t, rules)
		text := table.Encode()
		got := gridOf(t, text)
		if len(got.states) != table.States() || !got.numberedAsMet() || !got.partsAllStates() {
			t.Errorf("P6: %q has %d states and the table %q", rules, table.States(), text)
		}
		most = max(most, table.States())
		rows(d.runes, []int{9, 6, 4, 3, 2, 2, 2}[classes], func(row string) {
			expectRow(t, got, d.runes, rules, means, row)
		})
	}
	if most < 30 {
		t.Errorf("P6: no table of more than %d states was seen", most)
	}
}

// expectRow asks that a table breaks a row as the rules say.
func expectRow(t *testing.T, got grid, runes []rune, rules string, means []said, row string) {
	t.Helper()
	var classes []int
	var want []bool
	for at, r := range row {
		classes = append(classes, slices.Index(runes, r))
		want = append(want, breaksBetween(means, row[:at], r))
	}
	if breaks := got.breaksOf(classes); fmt.Sprint(breaks) != fmt.Sprint(want) {
		t.Errorf("P6: by the table of %q %q breaks: %v, want %v", rules, row, breaks, want)
	}
}

// The states of a table do not hang on which runes a class has, nor on whether
// it has some that no earlier one has.
func TestStatesDoNotHangOnRunes(t *testing.T) {
	d := drawer{Rand: rand.New(rand.NewPCG(5, 6))}
	for range 500 {
		rules, _ := d.rules(1 + d.IntN(6))
		hidden := rules
		for _, r := range d.runes {
			hidden = strings.Replace(hidden, "='"+string(r)+"'", "='a'", 1)
		}
		want := gridOf(t, compiled(t, rules).Encode()).states
		if got := gridOf(t, compiled(t, hidden).Encode()).states; fmt.Sprint(got) != fmt.Sprint(want) {
			t.Errorf("P6: the states of %q are %v, those of %q %v", hidden, got, rules, want)
		}
	}
}
