package cleave_test

import (
	"strings"
	"testing"

	"cleave/cleave"
)

// answer is what Check should say of rules.
type answer struct {
	rules string
	e     cleave.Errno
	at    int
}

func expect(t *testing.T, promise string, cases []answer) {
	t.Helper()
	for _, c := range cases {
		if e, at := cleave.Check(c.rules); e != c.e || at != c.at {
			t.Errorf("%s: Check(%q) = %d, %d, want %d, %d", promise, c.rules, e, at, c.e, c.at)
		}
	}
}

// all makes cases of one error and place.
func all(e cleave.Errno, at int, rules ...string) []answer {
	var cases []answer
	for _, r := range rules {
		cases = append(cases, answer{r, e, at})
	}
	return cases
}

const (
	sixClasses = "class A='a';class B='b';class C='c';class D='d';class E='e';class F='f';"
	eightRules = "~.;~.;~.;~.;~.;~.;~.;~.;"
)

func TestRulesThatHold(t *testing.T) {
	expect(t, "P3", all(cleave.OK, 0,
		"",
		" \n \n",
		"class A = 'a'-'z'; class N = '0'-'9'; A ~ A; N ~ N; A N* ~ A;",
		"class A='a'-'z';class N='0'-'9';A~A;N~N;A N*~A;",
		"\n class \n A \n = \n 'a' \n - \n 'z' \n ; \n ( \n A \n | \n . \n ) \n * \n ~ \n [ \n ^ \n A \n ] \n ; \n ",
		"class A = 'a'; A / A; ~ .;",
		"class A = 'a''b'-'c'0x64-0x65'f';",
		"class A='a';class B=0x62;[A B]~A;[^A B Any]/[^Any];",
		"class A = 'a'; class B = 'a'; class C = 'a'-'a'; A B C ~ C;",
		"class A1 = 'a'; class Bcd9 = 'b'; class C000 = 'c'; A1 Bcd9 C000 ~ .;",
		"class An = 'a'; class Anya = 'b'; An Anya ~ [An Anya Any];",
		"(.)(.)~.;",
		"((Any)*|.?)+*?~Any;",
		"[Any Any] ~ [^Any Any];",
	))
}

func TestRunesThatHold(t *testing.T) {
	expect(t, "P3", all(cleave.OK, 0,
		"class A = ' ';",
		"class A = ';' '=' '-'-'-' '~';",
		"class A = '\x00' '\t' '\r' '\"' '\\' '\x7f';",
		"class A = '\u0080' '\u07ff' '\u0800' '\ufffd' '\uffff';",
		"class A = '\U00010000'-'\U0010ffff';",
		"class A = '\ud7ff'-'\ue000';",
		"class A = 0x0-0x10ffff;",
		"class A = 0x0 0x00 0x000 0x0000 0x00000 0x000000;",
		"class A = 0x0a 0x27 0xabcde 0xf9876;",
		"class A = 0xd7ff 0xe000 0xfffe;",
		"class A = 'a'-0x61 0x61-'a' 0x000061-0x61;",
	))
}

func TestLong(t *testing.T) {
	expect(t, "P3", all(cleave.OK, 0, strings.Repeat("\n", 400), "~.;"+strings.Repeat(" ", 397)))
	expect(t, "P3", all(cleave.ErrForm, 0, strings.Repeat("x", 400), strings.Repeat("\xff", 400)))
	expect(t, "P3", all(cleave.ErrLong, 0,
		strings.Repeat(" ", 401),
		strings.Repeat("x", 401),
		strings.Repeat("\xff", 401),
		strings.Repeat("'", 401),
		strings.Repeat("(", 1<<20),
		strings.Repeat("~.;", 1<<20),
	))
}

func TestEndTooEarly(t *testing.T) {
	whole := "class A = 'a' - 'z' ; ( A | [ ^ A ] ) * ~ [ A Any ] ;"
	complete := map[string]bool{"": true, "class A = 'a' - 'z' ;": true, whole: true}
	words := strings.Fields(whole)
	for n := range len(words) + 1 {
		rules := strings.Join(words[:n], " ")
		for _, text := range []string{rules, rules + " ", rules + "\n \n"} {
			if complete[rules] {
				expect(t, "P3", all(cleave.OK, 0, text))
			} else {
				expect(t, "P3", all(cleave.ErrForm, len(text), text))
			}
		}
	}
}

func TestWordsThatAreNone(t *testing.T) {
	for _, word := range []string{
		"a", "cl", "clas", "Class", "CLASS", "class1", "classA", "classes",
		"AB", "ABc", "aB", "A1B", "AnyAny", "Abcde", "A1234", "1", "1A", "0", "00",
		"0x", "0X61", "0x6G", "0x6g", "0x6A", "0xA", "0x0000061", "0x1234567", "x61", "00x61", "0xx61",
	} {
		expect(t, "P3", []answer{
			{word, cleave.ErrForm, 0},
			{" \n" + word + " = 'a';", cleave.ErrForm, 2},
			{"class " + word + "='a';", cleave.ErrForm, 6},
			{"class A=" + word + ";", cleave.ErrForm, 8},
			{"class A='a'-" + word + ";", cleave.ErrForm, 12},
			{"class A='a'" + word + ";", cleave.ErrForm, 11},
			{word + "~.;", cleave.ErrForm, 0},
			{"~" + word + ";", cleave.ErrForm, 1},
			{"(" + word + ")~.;", cleave.ErrForm, 1},
			{".~[^" + word + "];", cleave.ErrForm, 4},
			{".~.;" + word, cleave.ErrForm, 4},
		})
	}
}

func TestRunesThatAreNone(t *testing.T) {
	for _, quoted := range []string{
		"'", "''", "'''", "''''", "'a", "'a;", "'a ';", "'ab'", "' a'", "'\n'", "'\n", "'aé'",
		"'\xff'", "'\x80'", "'\xc3'", "'\xc3", "'\xe9\x80'", "'\xc0\x80'", "'\xed\xa0\x80'", "'\xf4\x90\x80\x80'",
	} {
		expect(t, "P3", []answer{
			{quoted, cleave.ErrForm, 0},
			{"class A=" + quoted, cleave.ErrForm, 8},
			{"class A='a'-" + quoted, cleave.ErrForm, 12},
			{"class A='a'\n" + quoted, cleave.ErrForm, 12},
			{".~.;" + quoted, cleave.ErrForm, 4},
		})
	}
}

func TestWordsThatMayNotStandThere(t *testing.T) {
	expect(t, "P3", []answer{
		{"class class='a';", cleave.ErrForm, 6},
		{"class 0x61='a';", cleave.ErrForm, 6},
		{"class 'a'='a';", cleave.ErrForm, 6},
		{"class A B='a';", cleave.ErrForm, 8},
		{"class A 'a';", cleave.ErrForm, 8},
		{"class A=B;", cleave.ErrForm, 8},
		{"class A=A;", cleave.ErrForm, 8},
		{"class A=class;", cleave.ErrForm, 8},
		{"class A='a' B;", cleave.ErrForm, 12},
		{"class A='a' class B='b';", cleave.ErrForm, 12},
		{"class A='a'-B;", cleave.ErrForm, 12},
		{"'a'~.;", cleave.ErrForm, 0},
		{"0x61~.;", cleave.ErrForm, 0},
		{"~'a';", cleave.ErrForm, 1},
		{"~0x61;", cleave.ErrForm, 1},
		{"~class;", cleave.ErrForm, 1},
		{". 'a'~.;", cleave.ErrForm, 2},
		{". class~.;", cleave.ErrForm, 2},
		{"[class]~.;", cleave.ErrForm, 1},
		{"[Any 0x61]~.;", cleave.ErrForm, 5},
		{"~.;class A='a';", cleave.ErrForm, 3},
		{"class A='a';~.;class B='a';", cleave.ErrForm, 15},
	})
}

func TestBytesThatCannotStandThere(t *testing.T) {
	expect(t, "P3", []answer{
		{";", cleave.ErrForm, 0},
		{"class A=='a';", cleave.ErrForm, 8},
		{"class A='a'-'b'-'c';", cleave.ErrForm, 15},
		{"class A='a'--'b';", cleave.ErrForm, 12},
		{"class A=-'b';", cleave.ErrForm, 8},
		{"class A='a','b';", cleave.ErrForm, 11},
		{"class A='a';;", cleave.ErrForm, 12},
		{"~.;;", cleave.ErrForm, 3},
		{"~~.;", cleave.ErrForm, 1},
		{"~/.;", cleave.ErrForm, 1},
		{".~.~.;", cleave.ErrForm, 3},
		{"~.*;", cleave.ErrForm, 2},
		{"~(.);", cleave.ErrForm, 1},
		{"~.|.;", cleave.ErrForm, 2},
		{"..;", cleave.ErrForm, 2},
		{".||.~.;", cleave.ErrForm, 2},
		{".|*~.;", cleave.ErrForm, 2},
		{"(*)~.;", cleave.ErrForm, 1},
		{"(.|)~.;", cleave.ErrForm, 3},
		{"(|.)~.;", cleave.ErrForm, 1},
		{"(.~.);", cleave.ErrForm, 2},
		{"(.))~.;", cleave.ErrForm, 3},
		{"(.;", cleave.ErrForm, 2},
		{"[Any^]~.;", cleave.ErrForm, 4},
		{"[^^Any]~.;", cleave.ErrForm, 2},
		{"[[Any]]~.;", cleave.ErrForm, 1},
		{"[Any|Any]~.;", cleave.ErrForm, 4},
		{"[Any;", cleave.ErrForm, 4},
		{"^Any~.;", cleave.ErrForm, 0},
		{"]~.;", cleave.ErrForm, 0},
		{"~[];", cleave.ErrForm, 2},
		{"~[^];", cleave.ErrForm, 3},
		{". \n \t~.;", cleave.ErrForm, 4},
	})
}

// Each byte alone behind a rule: blanks only, and what a rule begins with.
func TestEveryByteBetween(t *testing.T) {
	for b := range 256 {
		rules := "~.;" + string([]byte{byte(b)})
		switch {
		case b == ' ' || b == '\n':
			expect(t, "P3", all(cleave.OK, 0, rules))
		case strings.IndexByte(".[(~/", byte(b)) >= 0:
			expect(t, "P3", all(cleave.ErrForm, 4, rules))
		case b >= 'A' && b <= 'Z':
			expect(t, "P3", all(cleave.ErrName, 3, rules))
		default:
			expect(t, "P3", all(cleave.ErrForm, 3, rules))
		}
	}
}

// Each byte within a name, and within a rune: which bytes words have.
func TestEveryByteOfWords(t *testing.T) {
	for b := range 256 {
		one := string([]byte{byte(b)})
		small := b >= 'a' && b <= 'z'
		digit := b >= '0' && b <= '9'
		capital := b >= 'A' && b <= 'Z'
		blank := b == ' ' || b == '\n'

		name := answer{"class A" + one + "='a';", cleave.ErrForm, 7}
		hex := answer{"class A=0x6" + one + ";", cleave.ErrForm, 11}
		switch {
		case small || digit || blank:
			name.e, name.at = cleave.OK, 0
		case capital:
			name.at = 6
		case b == '=':
			name.at = 8
		}
		switch {
		case digit || small && b <= 'f' || blank:
			hex.e, hex.at = cleave.OK, 0
		case small || capital:
			hex.at = 8
		case b == '-' || b == ';':
			hex.at = 12
		}
		expect(t, "P3", []answer{name, hex})
	}
}

func TestTwice(t *testing.T) {
	expect(t, "P3", []answer{
		{"class Any='a';", cleave.ErrTwice, 6},
		{"class A='a';class Any='b';", cleave.ErrTwice, 18},
		{"class A='a';class A='b';", cleave.ErrTwice, 18},
		{"class A='a';class B='b';class \n A='b';", cleave.ErrTwice, 32},
		{"class Abcd='a';class Abc='b';class Abcd='c';", cleave.ErrTwice, 35},
	})
}

func TestMany(t *testing.T) {
	eightSets := strings.Repeat(". ", 8)
	expect(t, "P3", []answer{
		{sixClasses, cleave.OK, 0},
		{sixClasses + "class G='g';", cleave.ErrMany, len(sixClasses) + 6},
		{sixClasses + "class  Gg", cleave.ErrMany, len(sixClasses) + 7},
		{"class A='a''b''c''d''e''f';", cleave.OK, 0},
		{"class A='a''b''c''d''e''f''g';", cleave.ErrMany, 26},
		{"class A='a'-'b''c'-'d''e'-'f''g'-'h''i'-'j''k'-'l';", cleave.OK, 0},
		{"class A='a'-'b''c'-'d''e'-'f''g'-'h''i'-'j''k'-'l' 'm'-'n';", cleave.ErrMany, 51},
		{"class A='a''b''c''d''e''f';class B='a''b''c''d''e''f';", cleave.OK, 0},
		{eightRules, cleave.OK, 0},
		{eightRules + "\n~.;", cleave.ErrMany, 25},
		{eightRules + " /.;", cleave.ErrMany, 25},
		{eightRules + "  Any~.;", cleave.ErrMany, 26},
		{eightRules + ".~.;", cleave.ErrMany, 24},
		{eightRules + "[Any]~.;", cleave.ErrMany, 24},
		{eightRules + "((.))~.;", cleave.ErrMany, 24},
		{eightSets + "~.;", cleave.OK, 0},
		{eightSets + "~.;~.;~[Any];", cleave.OK, 0},
		{eightSets + "Any~.;", cleave.ErrMany, 16},
		{eightSets + "[Any]~.;", cleave.ErrMany, 16},
		{eightSets + "((.))~.;", cleave.ErrMany, 18},
		{eightSets + "|.~.;", cleave.ErrMany, 17},
		{eightSets + "~.; .~.;", cleave.ErrMany, 20},
		{".~.;.~.;.~.;.~.;.~.;.~.;.~.;.~.;", cleave.OK, 0},
		{"..~.;.~.;.~.;.~.;.~.;.~.;.~.;.~.;", cleave.ErrMany, 29},
		{"[Any Any Any Any Any Any Any Any Any]~[Any Any Any Any Any Any Any Any Any];", cleave.OK, 0},
	})
}

func TestRange(t *testing.T) {
	for _, word := range []string{"0x110000", "0xffffff", "0xd800", "0xdbff", "0xdc00", "0xdfff", "0x00dfff"} {
		expect(t, "P3", []answer{
			{"class A=" + word + ";", cleave.ErrRange, 8},
			{"class A='a' " + word + ";", cleave.ErrRange, 12},
			{"class A=" + word + "-0x10ffff;", cleave.ErrRange, 8},
			{"class A=0x0-" + word + ";", cleave.ErrRange, 12},
			{"class A=0x0 - " + word + ";", cleave.ErrRange, 14},
		})
	}
	expect(t, "P3", []answer{
		{"class A='b'-'a';", cleave.ErrRange, 12},
		{"class A='a' 'c' - \n 0x62;", cleave.ErrRange, 20},
		{"class A=0x10ffff-0x10fffe;", cleave.ErrRange, 17},
		{"class A='b''a';", cleave.OK, 0},
		{"class A='b'-'b''a'-'a';", cleave.OK, 0},
	})
}

func TestName(t *testing.T) {
	expect(t, "P3", []answer{
		{"A~.;", cleave.ErrName, 0},
		{"~A;", cleave.ErrName, 1},
		{"/ A;", cleave.ErrName, 2},
		{"class A='a';A B~.;", cleave.ErrName, 14},
		{"class A='a';(A|Aa)~.;", cleave.ErrName, 15},
		{"class Ab='a';A~.;", cleave.ErrName, 13},
		{"class A='a';[^A Any B]~.;", cleave.ErrName, 20},
		{"class A='a';A~[B A];", cleave.ErrName, 15},
	})
}

func TestDeep(t *testing.T) {
	five := "(((((.)))))"
	expect(t, "P3", []answer{
		{five + "~.;", cleave.OK, 0},
		{five + five + "|" + five + "~.;" + five + "~.;", cleave.OK, 0},
		{"(" + five + ")~.;", cleave.ErrDeep, 5},
		{"( ( (((. \n ( .", cleave.ErrDeep, 11},
		{five + "~.;(.|" + five + ")~.;", cleave.ErrDeep, 21},
		{strings.Repeat("(", 400), cleave.ErrDeep, 5},
	})
}

// The error that stands further left is the answer, whatever follows.
func TestLeftmostError(t *testing.T) {
	expect(t, "P3", []answer{
		{"class Any x", cleave.ErrTwice, 6},
		{"class A='a';class A'", cleave.ErrTwice, 18},
		{sixClasses + "class G x", cleave.ErrMany, len(sixClasses) + 6},
		{"class A=0xd800 0x", cleave.ErrRange, 8},
		{"class A='b'-'a''", cleave.ErrRange, 12},
		{"class A='a''b''c''d''e''f''g'-x", cleave.ErrMany, 26},
		{"A x", cleave.ErrName, 0},
		{"[A\t", cleave.ErrName, 1},
		{eightRules + ".", cleave.ErrMany, 24},
		{eightRules + "((((((.", cleave.ErrMany, 24},
		{"........[]", cleave.ErrMany, 8},
		{"((((((x", cleave.ErrDeep, 5},
		{"A((((((.", cleave.ErrName, 0},
		{"((((((A", cleave.ErrDeep, 5},
		{"x class Any", cleave.ErrForm, 0},
		{"class A=;class A=0xd800;", cleave.ErrForm, 8},
		{"class A=0xd800;class A='a';", cleave.ErrRange, 8},
	})
}

// At one place the error is the answer that P3 names first.
func TestErrorsAtOnePlace(t *testing.T) {
	expect(t, "P3", []answer{
		{sixClasses + "class A='a';", cleave.ErrTwice, len(sixClasses) + 6},
		{sixClasses + "class Any='a';", cleave.ErrTwice, len(sixClasses) + 6},
		{sixClasses + "class a='a';", cleave.ErrForm, len(sixClasses) + 6},
		{sixClasses + "class ='a';", cleave.ErrForm, len(sixClasses) + 6},
		{"class A='a''b''c''d''e''f' 0xd800;", cleave.ErrMany, 27},
		{"class A='a''b''c''d''e''f' 0x1234567;", cleave.ErrForm, 27},
		{"class A='a''b''c''d''e''f' B;", cleave.ErrForm, 27},
		{eightRules + "B~.;", cleave.ErrMany, 24},
		{eightRules + "x~.;", cleave.ErrForm, 24},
		{eightRules + "|.~.;", cleave.ErrForm, 24},
		{eightRules + "'a'~.;", cleave.ErrForm, 24},
		{eightRules + "class A='a';", cleave.ErrForm, 24},
		{eightRules + ";", cleave.ErrForm, 24},
		{"........B~.;", cleave.ErrMany, 8},
		{"........ b~.;", cleave.ErrForm, 9},
		{"........'a'~.;", cleave.ErrForm, 8},
	})
}
