package cleave

import "slices"

const maxText = 200 // bytes of a text that is broken

// span is a range of runes, both ends in it.
type span struct {
	low, high rune
}

// arrow is where a rune leads, and whether the text breaks ahead of it.
type arrow struct {
	to     int
	breaks bool
}

// Table is what rules say. Make it by Compile or Decode.
type Table struct {
	classes [][]span
	states  [][]arrow // an arrow for each class, the last one for Any
}

// classOf tells which class has a rune: the first one that does.
func (t *Table) classOf(r rune) int {
	for n, spans := range t.classes {
		for _, one := range spans {
			if one.low <= r && r <= one.high {
				return n
			}
		}
	}
	return len(t.classes)
}

// breaksOf goes through a text from state 0 on.
func (t *Table) breaksOf(text string) []int {
	var found []int
	state := 0
	for at, r := range text {
		over := t.states[state][t.classOf(r)]
		if over.breaks && at > 0 {
			found = append(found, at)
		}
		state = over.to
	}
	return found
}

// maker makes the states of a table. A state is the set of the places up to
// which lefts fit runes that have just been gone through; at first there is none.
type maker struct {
	meaning
	begin   set   // places that lefts may begin with, as they may begin anywhere
	met     []set // states, by their numbers
	reached []set // of each class, the state that follows the one looked at
}

// tableOf makes the table of rules.
func tableOf(said meaning) *Table {
	m := maker{meaning: said, met: []set{0}, reached: make([]set, len(said.classes)+1)}
	for _, one := range said.rules {
		m.begin |= one.left.first
	}
	var states [][]arrow
	for n := 0; n < len(m.met); n++ {
		states = append(states, m.arrowsFrom(m.met[n]))
	}
	return &Table{said.classes, fewest(states)}
}

func (m *maker) arrowsFrom(state set) []arrow {
	m.reach(state)
	arrows := make([]arrow, len(m.reached))
	for class, next := range m.reached {
		arrows[class] = arrow{m.numberOf(next), m.breaksAt(state, class)}
	}
	return arrows
}

// reach finds of each class the state that follows one.
func (m *maker) reach(state set) {
	clear(m.reached)
	open := m.begin
	for n, here := range m.places {
		if state.has(n) {
			open |= here.next
		}
	}
	for n, here := range m.places {
		if !open.has(n) {
			continue
		}
		for class := range m.reached {
			if here.fits.has(class) {
				m.reached[class] |= only(n)
			}
		}
	}
}

// numberOf tells a state's number: the next one, if it was not met.
func (m *maker) numberOf(state set) int {
	if n := slices.Index(m.met, state); n >= 0 {
		return n
	}
	m.met = append(m.met, state)
	return len(m.met) - 1
}

// breaksAt tells whether a text breaks between a state and a class.
func (m *maker) breaksAt(state set, class int) bool {
	for _, one := range m.rules {
		fits := one.left.nothing || one.left.last&state != 0
		if fits && one.behind.has(class) {
			return one.breaks
		}
	}
	return true
}
