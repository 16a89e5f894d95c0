package cleave_test

import (
	"fmt"
	"slices"
	"strings"
	"sync"
	"testing"
	"unsafe"

	"cleave/cleave"
)

// seeds are rules of every kind, right and wrong.
var seeds = []string{
	"class A = 'a'-'z'; class N = '0'-'9'; A ~ A; N ~ N; A N* ~ A;",
	"class A='a';(A A)*~A;A/A;~.;",
	"class A = 0x61-0x7a 'é' 0xd7ff; [^A Any]+ | (.)? / [A];",
	"class A='a';class A='b';",
	"class A=0x110000;",
	"((((((Any)))))) ~ .;",
	". . . . . . . . . ~ .;",
	"~ B; / .;",
	eightRules + "~.;",
	sixClasses + "class G='g';",
}

// damaged hands over each seed with each byte left out, doubled, or replaced,
// and each seed's beginnings.
func damaged(use func(rules string)) {
	bytes := "Aaz09x~/.;[]^()|*+?-=' \n\t\x00\x80\xc3\xff"
	for _, seed := range seeds {
		for i := range len(seed) {
			use(seed[:i])
			use(seed[:i] + seed[i+1:])
			use(seed[:i+1] + seed[i:])
			for j := range len(bytes) {
				use(seed[:i] + bytes[j:j+1] + seed[i+1:])
			}
		}
	}
}

// P1: no call panics, and a place stands only where a promise names one.
func TestEveryCallEnds(t *testing.T) {
	damaged(func(rules string) {
		e, at := cleave.Check(rules)
		if e == cleave.OK && at != 0 || at < 0 || at > len(rules) {
			t.Errorf("P1: Check(%q) = %d, %d", rules, e, at)
		}
		if at == len(rules) && at > 0 && e != cleave.ErrForm {
			t.Errorf("P1: Check(%q) = %d, %d: nothing stands at that place", rules, e, at)
		}
		expectNoTable(t, rules)
	})
}

// P5: Compile has Check's error and place, and a table only without one.
func TestCompileAnswersAsCheck(t *testing.T) {
	tables, errors := 0, 0
	same := func(rules string) {
		e, at := cleave.Check(rules)
		table, got, place := cleave.Compile(rules)
		if got != e || place != at || (table != nil) != (e == cleave.OK) {
			t.Errorf("P5: Compile(%q) = %v, %d, %d, but Check answers %d, %d", rules, table, got, place, e, at)
		}
		if table != nil {
			tables++
		} else {
			errors++
		}
	}
	damaged(same)
	for _, rules := range []string{"", " ", strings.Repeat(" ", 400), strings.Repeat(" ", 401), strings.Repeat("x", 1<<20)} {
		same(rules)
	}
	if tables < 100 || errors < 100 {
		t.Errorf("P5: only %d tables and %d errors were seen", tables, errors)
	}
}

// P5: some errors of Compile written out, one of each kind.
func TestCompileErrors(t *testing.T) {
	for _, want := range []answer{
		{strings.Repeat("~.;", 134), cleave.ErrLong, 0},
		{"Any ~", cleave.ErrForm, 5},
		{"class A='a", cleave.ErrForm, 8},
		{"class A='a';((((((A))))))~A;", cleave.ErrDeep, 17},
		{". . . . . . . . .~.;", cleave.ErrMany, 16},
		{eightRules + "~.;", cleave.ErrMany, 24},
		{"class A='a';class A='a';", cleave.ErrTwice, 18},
		{"class A='a';A~.;B~.;", cleave.ErrName, 16},
		{"class A='b'-'a';A~A;", cleave.ErrRange, 12},
	} {
		if table, e, at := cleave.Compile(want.rules); table != nil || e != want.e || at != want.at {
			t.Errorf("P5: Compile(%q) = %v, %d, %d, want nil, %d, %d", want.rules, table, e, at, want.e, want.at)
		}
	}
}

// everyText hands over texts of every kind: broken UTF-8 too.
func everyText(use func(text string)) {
	damaged(func(text string) { use(text[:min(len(text), 200)]) })
	for a := range 256 {
		for _, b := range []byte{0, 'a', 0x7f, 0x80, 0xa0, 0xbf, 0xc3, 0xe2, 0xf0, 0xff} {
			use(string([]byte{byte(a), b}))
			use(string([]byte{'a', byte(a), b, 0x80, 'b'}))
		}
	}
}

// P7: places rise, and a rune begins at each of them, though none at 0.
func TestPlacesOfBreaks(t *testing.T) {
	words := compiled(t, "class A = 'a'-'z'; class N = '0'-'9'; A ~ A; N ~ N; A N* ~ A;")
	each := compiled(t, "/.;")
	everyText(func(text string) {
		var begins []int
		for at := range text {
			begins = append(begins, at)
		}
		if all, e := each.Breaks(text); len(text) > 0 && !slices.Equal(all, begins[1:]) || e != cleave.OK {
			t.Errorf("P7: Breaks(%q) = %v, %d, want all but the first of %v", text, all, e, begins)
		}
		some, e := words.Breaks(text)
		ahead := 0
		for _, at := range some {
			if at <= ahead || !slices.Contains(begins, at) {
				t.Errorf("P7: Breaks(%q) = %v, %d", text, some, e)
			}
			ahead = at
		}
	})
}

// P1, P2: what a table answers is new memory, and a change of it changes no
// answer that follows, nor one ahead of it.
func TestAnswersAreNewMemory(t *testing.T) {
	rules := "class A = 'a'-'z'; A ~ A;"
	text := compiled(t, rules).Encode()
	for _, tables := range [][2]*cleave.Table{
		{compiled(t, rules), compiled(t, rules)},
		{decoded(t, text), decoded(t, text)},
	} {
		table, twin := tables[0], tables[1]
		want := []int{2, 3, 4}
		first, _ := table.Breaks("ab12c")
		second, _ := table.Breaks("ab12c")
		third, _ := twin.Breaks("ab12c")
		clear(first[:cap(first)])
		_ = append(second[:1], 77, 77)
		fourth, _ := table.Breaks("ab12c")
		if !slices.Equal(third, want) || !slices.Equal(fourth, want) || second[0] != 2 {
			t.Errorf("P1: answers share memory: %v, %v, %v, want %v", second, third, fourth, want)
		}
		if table == twin {
			t.Errorf("P1: one table was answered twice")
		}
		if one, other := table.Encode(), table.Encode(); unsafe.StringData(one) == unsafe.StringData(other) {
			t.Errorf("P1: Encode answered the same memory twice")
		}
	}
}

// P1: a table has no part of the string that it was made of, which may be
// memory that changes.
func TestTablesKeepNoString(t *testing.T) {
	rules := []byte("class Aa9 = 'a'-'z' 'é'; class N = 0x30-0x39; Aa9 ~ Aa9; N Aa9* / [^N]; ~ .;")
	made := compiled(t, unsafe.String(&rules[0], len(rules)))
	want := made.Encode()
	text := []byte(want)
	read := decoded(t, unsafe.String(&text[0], len(text)))
	clear(rules)
	clear(text)
	if got, again := made.Encode(), read.Encode(); got != want || again != want {
		t.Errorf("P1: tables hang on memory that changed: %q, %q, want %q", got, again, want)
	}
}

// answersOf tells all that a table answers to texts.
func answersOf(table *cleave.Table, texts []string) string {
	var answers strings.Builder
	fmt.Fprintln(&answers, table.States(), table.Encode())
	for _, text := range texts {
		places, e := table.Breaks(text)
		fmt.Fprintln(&answers, places, e)
	}
	fmt.Fprintln(&answers, table.States(), table.Encode())
	return answers.String()
}

// P2: a table answers as at first, whatever was asked of it and of others, and
// at the same time.
func TestTableDoesNotChange(t *testing.T) {
	rules := []string{
		"class A = 'a'-'z'; class N = '0'-'9'; A ~ A; N ~ N; A N* ~ A;",
		"class A='a';(A A)+/A;A~A;~Any;",
		"class M=0x80-0x10ffff;class A='a'-'z';M . .|A/.;~[^M];",
	}
	var texts []string
	everyText(func(text string) { texts = append(texts, text) })
	texts = append(texts, strings.Repeat("a", 201))
	var all sync.WaitGroup
	for _, one := range rules {
		table := compiled(t, one)
		read := decoded(t, table.Encode())
		want := answersOf(compiled(t, one), texts)
		for range 3 {
			all.Add(1)
			go func() {
				defer all.Done()
				cleave.Check("class B='b';B~B;")
				cleave.Compile("class C='c';.C~C;")
				cleave.Decode("cleave 1 2\n61-61\n1/ 0/\n1~ 0/\n")
				cleave.Decode("cleave 1 2\n61-61\n1/ 0/\n1/ 0/\n")
				if answersOf(table, texts) != want || answersOf(read, texts) != want {
					t.Errorf("P2: a table of %q answers one way and another", one)
				}
			}()
		}
	}
	all.Wait()
}

// P1: too long a string is found out by its length, whatever else is wrong.
func TestLengthComesFirst(t *testing.T) {
	for _, seed := range seeds {
		rules := seed + strings.Repeat(" ", 401-len(seed))
		if e, at := cleave.Check(rules); e != cleave.ErrLong || at != 0 {
			t.Errorf("P1: Check(%q) = %d, %d, want %d, 0", rules, e, at, cleave.ErrLong)
		}
	}
	long := strings.Repeat("~.;\n", 1<<20)
	if n := testing.AllocsPerRun(10, func() { cleave.Check(long) }); n != 0 {
		t.Errorf("P1: Check of too long rules took memory %v times", n)
	}
	if n := testing.AllocsPerRun(10, func() { cleave.Compile(long) }); n != 0 {
		t.Errorf("P1: Compile of too long rules took memory %v times", n)
	}
}

// P3: what stands ahead of an error's place is not wrong by itself: it is
// rules, or ends too early.
func TestNothingWrongAheadOfPlace(t *testing.T) {
	damaged(func(rules string) {
		e, at := cleave.Check(rules)
		if e == cleave.OK {
			return
		}
		ahead, place := cleave.Check(rules[:at])
		if ahead != cleave.OK && (ahead != cleave.ErrForm || place != at) {
			t.Errorf("P3: Check(%q) = %d, %d, but what is ahead answers %d, %d", rules, e, at, ahead, place)
		}
	})
}

type checked struct {
	e  cleave.Errno
	at int
}

func checkAll(texts []string, backward bool) []checked {
	answers := make([]checked, len(texts))
	for i := range texts {
		if backward {
			i = len(texts) - 1 - i
		}
		answers[i].e, answers[i].at = cleave.Check(texts[i])
	}
	return answers
}

// P2: an answer does not hang on the calls ahead of it, nor on those at the
// same time.
func TestAnswerDependsOnArgumentAlone(t *testing.T) {
	var texts []string
	damaged(func(rules string) { texts = append(texts, rules) })
	want := checkAll(texts, false)
	results := make([][]checked, 4)
	var all sync.WaitGroup
	for i := range results {
		all.Add(1)
		go func() {
			defer all.Done()
			results[i] = checkAll(texts, i%2 == 1)
		}()
	}
	all.Wait()
	for _, answers := range results {
		for i, got := range answers {
			if got != want[i] {
				t.Fatalf("P2: Check(%q) = %v, and at another time %v", texts[i], want[i], got)
			}
		}
	}
}

// P1, Words: the errors' numbers.
func TestErrorNumbers(t *testing.T) {
	for want, e := range []cleave.Errno{
		cleave.OK, cleave.ErrLong, cleave.ErrForm, cleave.ErrDeep, cleave.ErrMany,
		cleave.ErrTwice, cleave.ErrName, cleave.ErrRange, cleave.ErrTable,
	} {
		if int(e) != want {
			t.Errorf("Words: error number %d is %d", want, int(e))
		}
	}
}
