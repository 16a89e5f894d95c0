package cleave_test

import (
	"slices"
	"strings"
	"testing"

	"cleave/cleave"
)

func compiled(t *testing.T, rules string) *cleave.Table {
	t.Helper()
	table, e, at := cleave.Compile(rules)
	if table == nil || e != cleave.OK || at != 0 {
		t.Fatalf("P5: Compile(%q) = %v, %d, %d", rules, table, e, at)
	}
	return table
}

// parted is a text with | at the places at which it breaks.
func parted(text string, places []int) string {
	for _, at := range slices.Backward(places) {
		text = text[:at] + "|" + text[at:]
	}
	return text
}

// expectBreaks asks that texts break by rules just where a | stands in them.
func expectBreaks(t *testing.T, promise, rules string, wanted ...string) {
	t.Helper()
	table := compiled(t, rules)
	for _, want := range wanted {
		text := strings.ReplaceAll(want, "|", "")
		places, e := table.Breaks(text)
		if got := parted(text, places); got != want || e != cleave.OK {
			t.Errorf("%s: Breaks(%q) by %q = %v, %d: %q, want %q", promise, text, rules, places, e, got, want)
		}
	}
}

const aAndB = "class A='a';class B='b';"

func TestBreaksOfExamples(t *testing.T) {
	words := "class A = 'a'-'z'; class N = '0'-'9'; A ~ A; N ~ N; A N* ~ A;"
	places, e := compiled(t, words).Breaks("ab12 c")
	if !slices.Equal(places, []int{2, 4, 5}) || e != cleave.OK {
		t.Errorf("P7: the example breaks at %v, %d, want 2, 4, 5", places, e)
	}
	expectBreaks(t, "P4", words, "ab|12", "ab|12c", "12|c", "12| |c", "a|1| |1|a")
	expectBreaks(t, "P4", "class A = 'a'; (A A)* ~ A;", "a", "aaaa", "baa", "aa|b|baaa")
	expectBreaks(t, "P4", "class A = 'a'; A / A; ~ .;", "a", "a|a|a", "abba|aba|ab")
}

func TestBreaksWithoutRules(t *testing.T) {
	for _, rules := range []string{"", " \n", "class A='a';", aAndB} {
		expectBreaks(t, "P4", rules, "", "a", "a|a", "a|b|c|é|a")
	}
	// None of these rules counts anywhere: no rune is of no class.
	for _, rules := range []string{"~[^Any];", "[^Any]~.;", "class A=0x0-0x10ffff;.~Any;", "class A=0x0-0x10ffff;Any?Any~.;"} {
		expectBreaks(t, "P4", rules, "", "a|a", "a|b|\xff|é")
	}
}

func TestBreaksWithoutLeft(t *testing.T) {
	expectBreaks(t, "P4", "~.;", "", "a", "aé가a")
	expectBreaks(t, "P4", "/.;", "", "a", "a|é|가|a")
	expectBreaks(t, "P4", "class A='a';~A;", "aa", "ba|ba", "a|baa|b")
	expectBreaks(t, "P4", "class A='a';/A;~.;", "a|a", "b|ab|ab", "ab|a|ab")
}

// A left that may be nothing fits at each place, as no left does.
func TestBreaksByNothing(t *testing.T) {
	for _, left := range []string{
		"", "A?", "A*", "A?B*", "A*|B", "B|A?", "(A?)", "(A|B?)", "(A*B*)+", "(A+)?", "(A?)+", "A?+", "A+?", "A*+?", "((A B)*)",
	} {
		expectBreaks(t, "P4", aAndB+left+"~A;", "aa", "caa|b", "ba|ba|caa")
		expectBreaks(t, "P4", aAndB+left+"/A;~.;", "a|a", "c|a|ab", "b|ab|ac|a|a")
	}
	// These may not be nothing.
	for _, left := range []string{"B", "A? B", "B A*", "A* B A?", "B+", "(B|B B)", "(A?B)+", "B|B", "(A* B)(A*)"} {
		expectBreaks(t, "P4", aAndB+left+"~Any;", "a", "c", "c|c", "bc", "c|bc")
	}
}

func TestBreaksByOneSet(t *testing.T) {
	expectBreaks(t, "P4", aAndB+"A~B;", "ab", "b|a", "a|ab|b|ab|c|b")
	expectBreaks(t, "P4", aAndB+"A/B;~.;", "a|b", "baa|bba|bcb")
}

// The left fits up to the place, whatever stands ahead of what it fits.
func TestBreaksByRow(t *testing.T) {
	expectBreaks(t, "P4", aAndB+"A B~A;", "a|ba", "a|ba|ba", "a|b|b|a|a|b|c|a", "b|a|ba", "c|a|ba|c")
	expectBreaks(t, "P4", aAndB+"A A B / A;~.;", "aab|a", "aaab|aab|a", "abaab|ab")
	expectBreaks(t, "P4", aAndB+"A.A.A.A./.;~.;", "aaaaaaaa|a|a", "abababab|ab|ab", "babababab|ab|aa|b", "abababbaba", "acaéa가ac|a")
}

func TestBreaksByStar(t *testing.T) {
	expectBreaks(t, "P4", aAndB+"A B* ~ A;", "aa", "a|b|ba", "b|a", "b|b|aa|ba", "a|b|c|a")
	expectBreaks(t, "P4", aAndB+"(A B)* Any ~ A;", "ca", "a|ca", "a|b|ca", "a|b|a|ca|b|a")
	expectBreaks(t, "P4", aAndB+"A (A B)* Any ~ A;", "c|a", "a|ca", "a|a|b|ca", "a|b|c|a", "a|a|b|a|b|ca|b|c|a")
}

func TestBreaksByPlus(t *testing.T) {
	expectBreaks(t, "P4", aAndB+"A B+ ~ A;", "a|a", "a|ba", "a|b|b|ba", "b|a", "b|b|a|a|ba", "a|b|c|a")
	expectBreaks(t, "P4", aAndB+"A(A B)+Any~A;", "c|a", "a|c|a", "a|a|b|ca", "a|b|c|a", "a|a|b|a|b|ca|b|c|a")
}

func TestBreaksByQuestion(t *testing.T) {
	expectBreaks(t, "P4", aAndB+"A B? ~ A;", "aa", "a|ba", "a|b|b|a", "b|a", "b|b|aa|ba", "a|b|c|a")
	expectBreaks(t, "P4", aAndB+"A(A B)?Any~A;", "c|a", "a|ca", "a|a|b|ca", "a|b|c|a", "a|a|b|a|b|c|a")
}

// Several signs behind one part hold one for what is ahead of the other.
func TestBreaksBySeveralSigns(t *testing.T) {
	for _, signs := range []string{"*", "+?", "?+", "**", "*+", "+*", "*?", "?*", "+ \n ?", "?+?"} {
		expectBreaks(t, "P4", aAndB+"A B"+signs+" ~ A;", "aa", "a|ba", "a|b|b|ba", "b|a", "a|b|c|a")
	}
	for _, signs := range []string{"+", "++", "+ + +"} {
		expectBreaks(t, "P4", aAndB+"A B"+signs+"~A;", "a|a", "a|ba", "a|b|ba", "b|a", "a|b|c|a")
	}
	expectBreaks(t, "P4", aAndB+"A B?? ~ A;", "aa", "a|ba", "a|b|b|a")
}

func TestBreaksByEither(t *testing.T) {
	expectBreaks(t, "P4", aAndB+"A|B~Any;", "ac", "bc", "c|c", "a|bc|c|ac")
	expectBreaks(t, "P4", aAndB+"A A|B~Any;", "a|c", "a|ac", "bc", "a|bc", "b|a|c")
	expectBreaks(t, "P4", aAndB+"B|A A|Any Any~B;", "bb", "a|b", "a|ab", "c|cb", "c|b", "c|a|b")
	expectBreaks(t, "P4", aAndB+"A(B|Any)A~A;", "a|b|aa", "a|c|aa", "a|a|a", "b|a|a")
}

func TestBreaksByGroup(t *testing.T) {
	for _, left := range []string{"A(B A)", "(A)(B)(A)", "((A B))A", "(((((A)B)A)))", "(A B A)"} {
		expectBreaks(t, "P4", aAndB+left+"~Any;", "a|b|ac", "b|a|c", "c|a|b|ac|c", "a|b|b|a|c")
	}
	expectBreaks(t, "P4", aAndB+"(A B?)+A~B;", "a|b", "a|ab", "a|b|ab", "a|ab|ab|b", "c|a|b")
	expectBreaks(t, "P4", aAndB+"Any((A|B)B)*~Any;", "cc", "c|a|bc", "c|b|bc", "c|b|c", "c|a|b|b|bc|b|c", "c|b|a|c")
	expectBreaks(t, "P4", aAndB+"Any(A*B*)*Any~.;", "c|cc", "c|a|b|b|a|ca|b", "a|b|c|a")
}

func TestBreaksBySets(t *testing.T) {
	three := aAndB + "class C='c';"
	for _, c := range []struct {
		set  string
		want string // the runes it has
	}{
		{".", "abcd"}, {"A", "a"}, {"C", "c"}, {"Any", "d"}, {"[A]", "a"}, {"[Any]", "d"},
		{"[A C]", "ac"}, {"[C A]", "ac"}, {"[A Any]", "ad"}, {"[A A]", "a"}, {"[Any B C A]", "abcd"},
		{"[^A]", "bcd"}, {"[^Any]", "abc"}, {"[^A C]", "bd"}, {"[^B B]", "acd"}, {"[^Any B]", "ac"}, {"[^A B C Any]", ""},
	} {
		for _, r := range "abcd" {
			want := "d|" + string(r)
			if strings.ContainsRune(c.want, r) {
				want = "d" + string(r)
			}
			expectBreaks(t, "P4", three+"Any~"+c.set+";", want)
			want = string(r) + "|d"
			if strings.ContainsRune(c.want, r) {
				want = string(r) + "d"
			}
			expectBreaks(t, "P4", three+c.set+"~Any;", want)
		}
	}
	// Without a class, all runes are of Any.
	expectBreaks(t, "P4", "Any~Any;", "abc")
	expectBreaks(t, "P4", ".~.;", "abc")
}

func TestClassesOfRunes(t *testing.T) {
	keep := func(ranges string) string { return "class A=" + ranges + ";A~A;" }
	expectBreaks(t, "P4", keep("'b'-'d'"), "a|bcd|e", "a|a|bb|a")
	expectBreaks(t, "P4", keep("'b'"), "a|bb|c")
	expectBreaks(t, "P4", keep("'b' 'd'-'d' 'f'-'g' 0x69 'k' 'm'"), "a|bdfg|h|ikm|n|l|j|e|c")
	expectBreaks(t, "P4", keep("0x80-0x7ff '가'-0xd7a3"), "\x7f|\u0080\u07ff|\u0800|가나힣|\ud7a4")
	expectBreaks(t, "P4", keep("0xd7ff-0xe000"), "\ud7fe|\ud7ff\ue000|\ue001")
	expectBreaks(t, "P4", keep("0x0 0x10ffff"), "\x00\U0010ffff\x00|\x01|\U0010fffe")
	expectBreaks(t, "P4", keep("'\u0301' 0x1f600-0x1f64f"), "e|\u0301\u0301😀😁|e")
	expectBreaks(t, "P4", sixClasses+"A~B;B~C;C~D;D~E;E~F;F~Any;Any~A;", "abcdefgabcdefg", "b|ab|d|f|ab|a")
}

// A rune that several classes have is the first one's, though a later class
// may have no rune left.
func TestRuneOfSeveralClasses(t *testing.T) {
	some := "class A='a' 'c' 'e';class B='b'-'d';class C='a'-'f';class D='a'-'f';"
	expectBreaks(t, "P4", some+"~A;", "ba|bc|de|f|g")
	expectBreaks(t, "P4", some+"~B;", "ab|cd|e|f|g")
	expectBreaks(t, "P4", some+"~C;", "a|b|c|d|ef|g")
	expectBreaks(t, "P4", some+"~D;", "a|b|c|d|e|f|g")
	expectBreaks(t, "P4", some+"~Any;", "a|b|c|d|e|fg")
	expectBreaks(t, "P4", some+"~[^D];", "abcdefg")
	expectBreaks(t, "P4", some+"A~A;B~B;C~[A B];", "ac|bd|ee|f", "fa|fb|f|f")
}

func TestFirstRuleThatCounts(t *testing.T) {
	expectBreaks(t, "P4", "~.;/.;", "abc")
	expectBreaks(t, "P4", "/.;~.;", "a|b|c")
	expectBreaks(t, "P4", aAndB+"A~A;A/.;~.;", "aa|bba", "aaa|cbcaa|b")
	expectBreaks(t, "P4", aAndB+"A/.;A~A;~.;", "a|a|bba|a")
	// Those whose left does not fit, or whose set has not the rune, do not count.
	expectBreaks(t, "P4", aAndB+"B/A;A/B;A~A;B~B;/.;~.;", "aa|bb|aa|c|c|a")
	expectBreaks(t, "P4", aAndB+"A A/A;A~A;A?/A;~.;", "aa|a|ab|aa|abb")
	expectBreaks(t, "P4", aAndB+"A/B;A~B;/B;~B;A~A;/A;~A;~.;", "aa|b|b|acc|aac|b")
	// The last rule of eight counts as well.
	expectBreaks(t, "P4", sixClasses+"A~B;B~C;C~D;D~E;E~F;F~A;Any~Any;A~A;", "aabcdefaa|f|c|gg|a")
}

func TestBytesThatBeginNoRune(t *testing.T) {
	lost := "class A=0xfffd;A~A;"
	for _, want := range []string{
		"a|\xff\xfe|b", "a|\x80", "\x80\x80|a", "\xc3", "\xc3|a", "\xc3\xc3|\u00e9|\xa9", "\xe2\x82|c", "\xe2\x82",
		"\xc0\x80|a", "\xc1\xbf", "\xe0\x80\x80", "\xed\xa0\x80|a", "\xed\xbf\xbf", "\xf0\x8f\xbf\xbf", "\xf4\x90\x80\x80", "\xf0\x9f\x98|x",
		"\xf5\x80\x80\x80", "\ufffd\xff\ufffd|a", "é|\xff|é", "\xe2|é",
	} {
		expectBreaks(t, "P7", lost, want)
	}
	// Each is a rune by itself.
	for _, want := range []string{"\xff|\xfe", "\xe2|\x82|c", "\xed|\xa0|\x80", "\xc0|\x80", "\xf4|\x90|\x80|\x80", "\ufffd|\xff|\ufffd", "\xf0|\x9f|\x98"} {
		expectBreaks(t, "P7", "/.;", want)
	}
	expectBreaks(t, "P7", "class A=0xfffc 0xfffe;A~A;", "\ufffc\ufffe|\xff|\xfe|\ufffd")
	expectBreaks(t, "P7", "class A='a';A Any Any~A;", "a|\xc3|\xc3a", "a|\xc3|a", "a|é|ña")
}

func TestLongTexts(t *testing.T) {
	each, never := compiled(t, "/.;"), compiled(t, "~.;")
	for _, c := range []struct {
		text   string
		e      cleave.Errno
		breaks int
	}{
		{strings.Repeat("a", 199), cleave.OK, 198},
		{strings.Repeat("a", 200), cleave.OK, 199},
		{strings.Repeat("a", 201), cleave.ErrLong, 0},
		{strings.Repeat("é", 100), cleave.OK, 99},
		{strings.Repeat("é", 100) + "a", cleave.ErrLong, 0},
		{strings.Repeat("é", 101), cleave.ErrLong, 0},
		{strings.Repeat("\xff", 200), cleave.OK, 199},
		{strings.Repeat("\xff", 201), cleave.ErrLong, 0},
		{strings.Repeat("가", 66) + "aa", cleave.OK, 67},
		{strings.Repeat("가", 67), cleave.ErrLong, 0},
		{strings.Repeat("a", 1<<20), cleave.ErrLong, 0},
	} {
		var want []int
		for at := range c.text {
			if at > 0 && c.e == cleave.OK {
				want = append(want, at)
			}
		}
		got, e := each.Breaks(c.text)
		if !slices.Equal(got, want) || e != c.e || len(got) != c.breaks {
			t.Errorf("P7: a text of %d bytes has %d breaks, %d, want %d, %d", len(c.text), len(got), e, len(want), c.e)
		}
		if got, e := never.Breaks(c.text); len(got) != 0 || e != c.e {
			t.Errorf("P7: a text of %d bytes has %d breaks, %d, want 0, %d", len(c.text), len(got), e, c.e)
		}
	}
	long := strings.Repeat("a", 1<<20)
	if n := testing.AllocsPerRun(10, func() { each.Breaks(long) }); n != 0 {
		t.Errorf("P1: Breaks of too long a text took memory %v times", n)
	}
}
