package cleave_test

import (
	"strings"
	"sync"
	"testing"

	"cleave/cleave"
)

// seeds are rules of every kind, right and wrong.
var seeds = []string{
	"class A = 'a'-'z'; class N = '0'-'9'; A ~ A; N ~ N; A N* ~ A;",
	"class A='a';(A A)*~A;A/A;~.;",
	"class A = 0x61-0x7a 'é' 0xd7ff; [^A Any]+ | (.)? / [A];",
	"class A='a';class A='b';",
	"class A=0x110000;",
	"((((((Any)))))) ~ .;",
	". . . . . . . . . ~ .;",
	"~ B; / .;",
	eightRules + "~.;",
	sixClasses + "class G='g';",
}

// damaged hands over each seed with each byte left out, doubled, or replaced,
// and each seed's beginnings.
func damaged(use func(rules string)) {
	bytes := "Aaz09x~/.;[]^()|*+?-=' \n\t\x00\x80\xc3\xff"
	for _, seed := range seeds {
		for i := range len(seed) {
			use(seed[:i])
			use(seed[:i] + seed[i+1:])
			use(seed[:i+1] + seed[i:])
			for j := range len(bytes) {
				use(seed[:i] + bytes[j:j+1] + seed[i+1:])
			}
		}
	}
}

// P1: no call panics, and a place stands only where a promise names one.
func TestEveryCallEnds(t *testing.T) {
	damaged(func(rules string) {
		e, at := cleave.Check(rules)
		if e == cleave.OK && at != 0 || at < 0 || at > len(rules) {
			t.Errorf("P1: Check(%q) = %d, %d", rules, e, at)
		}
		if at == len(rules) && at > 0 && e != cleave.ErrForm {
			t.Errorf("P1: Check(%q) = %d, %d: nothing stands at that place", rules, e, at)
		}
		cleave.Compile(rules)
		cleave.Decode(rules)
	})
}

// P1: too long a string is found out by its length, whatever else is wrong.
func TestLengthComesFirst(t *testing.T) {
	for _, seed := range seeds {
		rules := seed + strings.Repeat(" ", 401-len(seed))
		if e, at := cleave.Check(rules); e != cleave.ErrLong || at != 0 {
			t.Errorf("P1: Check(%q) = %d, %d, want %d, 0", rules, e, at, cleave.ErrLong)
		}
	}
	long := strings.Repeat("~.;\n", 1<<20)
	if n := testing.AllocsPerRun(10, func() { cleave.Check(long) }); n != 0 {
		t.Errorf("P1: Check of too long rules took memory %v times", n)
	}
}

// P3: what stands ahead of an error's place is not wrong by itself: it is
// rules, or ends too early.
func TestNothingWrongAheadOfPlace(t *testing.T) {
	damaged(func(rules string) {
		e, at := cleave.Check(rules)
		if e == cleave.OK {
			return
		}
		ahead, place := cleave.Check(rules[:at])
		if ahead != cleave.OK && (ahead != cleave.ErrForm || place != at) {
			t.Errorf("P3: Check(%q) = %d, %d, but what is ahead answers %d, %d", rules, e, at, ahead, place)
		}
	})
}

type checked struct {
	e  cleave.Errno
	at int
}

func checkAll(texts []string, backward bool) []checked {
	answers := make([]checked, len(texts))
	for i := range texts {
		if backward {
			i = len(texts) - 1 - i
		}
		answers[i].e, answers[i].at = cleave.Check(texts[i])
	}
	return answers
}

// P2: an answer does not hang on the calls ahead of it, nor on those at the
// same time.
func TestAnswerDependsOnArgumentAlone(t *testing.T) {
	var texts []string
	damaged(func(rules string) { texts = append(texts, rules) })
	want := checkAll(texts, false)
	results := make([][]checked, 4)
	var all sync.WaitGroup
	for i := range results {
		all.Add(1)
		go func() {
			defer all.Done()
			results[i] = checkAll(texts, i%2 == 1)
		}()
	}
	all.Wait()
	for _, answers := range results {
		for i, got := range answers {
			if got != want[i] {
				t.Fatalf("P2: Check(%q) = %v, and at another time %v", texts[i], want[i], got)
			}
		}
	}
}

// P1, Words: the errors' numbers.
func TestErrorNumbers(t *testing.T) {
	for want, e := range []cleave.Errno{
		cleave.OK, cleave.ErrLong, cleave.ErrForm, cleave.ErrDeep, cleave.ErrMany,
		cleave.ErrTwice, cleave.ErrName, cleave.ErrRange, cleave.ErrTable,
	} {
		if int(e) != want {
			t.Errorf("Words: error number %d is %d", want, int(e))
		}
	}
}
