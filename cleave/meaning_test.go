package cleave_test

import (
	"math/rand/v2"
	"regexp"
	"slices"
	"strings"
	"testing"

	"cleave/cleave"
)

// runesOf has a rune of each class in its order, and then those of Any.
const runesOf = "abcdefé"

// drawer draws rules by chance, the same ones in each run, and says of each
// rule once more what it means: its left as a pattern of texts that end at the
// place.
type drawer struct {
	*rand.Rand
	runes  []rune // one of each class, the last of Any
	places int    // sets of lefts that may still be drawn
}

// said is what one rule means.
type said struct {
	left   *regexp.Regexp
	breaks bool
	behind string
}

// set draws a set, and the runes it has.
func (d *drawer) set() (text, has string) {
	var names []string
	others := ""
	for i, r := range d.runes {
		if d.IntN(2) == 0 {
			others += string(r)
			continue
		}
		has += string(r)
		if i == len(d.runes)-1 {
			names = append(names, "Any")
		} else {
			names = append(names, strings.ToUpper(string(r)))
		}
	}
	switch {
	case len(names) == 0:
		return ".", string(d.runes)
	case d.IntN(4) == 0:
		return "[^" + strings.Join(names, " ") + "]", others
	case len(names) == 1 && d.IntN(2) == 0:
		return names[0], has
	}
	return "[" + strings.Join(names, " ") + "]", has
}

func (d *drawer) part(deep int) (text, pattern string) {
	if deep > 0 && d.IntN(2) == 0 {
		text, pattern = d.either(deep - 1)
		text = "(" + text + ")"
	} else {
		d.places--
		text, pattern = d.set()
		if pattern == "" {
			pattern = `[^\x00-\x{10ffff}]`
		} else {
			pattern = "[" + pattern + "]"
		}
	}
	for d.IntN(3) == 0 {
		sign := string("*+?"[d.IntN(3)])
		text += sign
		pattern = "(?:" + pattern + ")" + sign
	}
	return text, "(?:" + pattern + ")"
}

// several draws one or more of a kind, with a sign between.
func (d *drawer) several(between string, one func() (text, pattern string)) (text, pattern string) {
	text, pattern = one()
	for d.places > 0 && d.IntN(2) == 0 {
		more, also := one()
		text += between + more
		pattern += strings.TrimSpace(between) + also
	}
	return text, pattern
}

func (d *drawer) either(deep int) (text, pattern string) {
	return d.several("|", func() (string, string) {
		return d.several(" ", func() (string, string) { return d.part(deep) })
	})
}

func (d *drawer) rule() (string, said) {
	text, pattern := "", ""
	if d.places > 0 && d.IntN(6) > 0 {
		text, pattern = d.either(3)
	}
	sign := string("~/"[d.IntN(2)])
	set, has := d.set()
	// The place is the end of what stands ahead, and the left may begin anywhere.
	return text + sign + set + ";", said{regexp.MustCompile("(?:" + pattern + ")$"), sign == "/", has}
}

// rules draws rules, until some are within all limits.
func (d *drawer) rules(classes int) (string, []said) {
	all := []rune(runesOf)
	d.runes = append(slices.Clone(all[:classes]), all[len(all)-1])
	d.places = 8
	var text strings.Builder
	for _, r := range all[:classes] {
		text.WriteString("class " + strings.ToUpper(string(r)) + "='" + string(r) + "';")
	}
	var rules []said
	for range d.IntN(7) {
		one, means := d.rule()
		text.WriteString(one)
		rules = append(rules, means)
	}
	if text.Len() > 400 || d.places < 0 {
		return d.rules(classes)
	}
	return text.String(), rules
}

// breaksBetween is P4 once more: by what stands ahead, and the rune behind.
func breaksBetween(rules []said, ahead string, behind rune) bool {
	for _, one := range rules {
		if strings.ContainsRune(one.behind, behind) && one.left.MatchString(ahead) {
			return one.breaks
		}
	}
	return true
}

// rows hands over all rows of the runes, up to a length.
func rows(runes []rune, length int, use func(text string)) {
	var longer func(text string, left int)
	longer = func(text string, left int) {
		use(text)
		for _, r := range runes {
			if left > 0 {
				longer(text+string(r), left-1)
			}
		}
	}
	longer("", length)
}

// expectAsSaid asks that a text breaks by the rules as they say.
func expectAsSaid(t *testing.T, table *cleave.Table, rules string, means []said, text string) {
	t.Helper()
	var want []int
	for at, r := range text {
		if at > 0 && breaksBetween(means, text[:at], r) {
			want = append(want, at)
		}
	}
	if got, e := table.Breaks(text); !slices.Equal(got, want) || e != cleave.OK {
		t.Errorf("P4: Breaks(%q) by %q = %v, %d, want %v", text, rules, got, e, want)
	}
}

// Tables are held against the patterns at all short texts and some long ones.
func TestMeaningAgainstPatterns(t *testing.T) {
	d := drawer{Rand: rand.New(rand.NewPCG(1, 2))}
	for turn := range 3000 {
		classes := []int{0, 1, 1, 2, 2, 2, 3, 6}[turn%8]
		rules, means := d.rules(classes)
		table := compiled(t, rules)
		rows(d.runes, []int{9, 6, 4, 3, 2, 2, 2}[classes], func(text string) {
			expectAsSaid(t, table, rules, means, text)
		})
		for range 3 {
			long := ""
			for range 60 {
				long += string(d.runes[d.IntN(len(d.runes))])
			}
			expectAsSaid(t, table, rules, means, long)
		}
	}
}
