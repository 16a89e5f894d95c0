package cleave

// set holds numbers from 0 to 7: of classes, or of places.
type set uint8

// only is the set of one number.
func only(n int) set { return 1 << n }

// below is the set of all numbers below one.
func below(n int) set { return only(n) - 1 }

func (s set) has(n int) bool { return s&only(n) != 0 }

// place is one set of a left.
type place struct {
	fits set // classes
	next set // places that may stand right behind it
}

// left is what a left, or a part of one, looks like from outside.
type left struct {
	nothing bool // it may be nothing
	first   set  // places it may begin with
	last    set  // places it may end with
}

// rule says where texts break, or do not.
type rule struct {
	left   left
	breaks bool
	behind set // classes
}

// meaning is what rules say, without their names.
type meaning struct {
	classes [][]span
	places  []place // of all lefts, as a state of the table is a set of them
	rules   []rule
}

// link lets each of some places stand right behind each of others.
func (m *meaning) link(ahead, behind set) {
	for n := range m.places {
		if ahead.has(n) {
			m.places[n].next |= behind
		}
	}
}

// addPlace makes a left of one set.
func (m *meaning) addPlace(fits set) left {
	here := only(len(m.places))
	m.places = append(m.places, place{fits: fits})
	return left{first: here, last: here}
}

// either is the one left or the other.
func either(one, other left) left {
	return left{
		nothing: one.nothing || other.nothing,
		first:   one.first | other.first,
		last:    one.last | other.last,
	}
}

// join is one left, and another right behind it.
func (m *meaning) join(ahead, behind left) left {
	m.link(ahead.last, behind.first)
	whole := left{
		nothing: ahead.nothing && behind.nothing,
		first:   ahead.first,
		last:    behind.last,
	}
	if ahead.nothing {
		whole.first |= behind.first
	}
	if behind.nothing {
		whole.last |= ahead.last
	}
	return whole
}

// repeat is a left with one of the signs `*`, `+` and `?` behind it.
func (m *meaning) repeat(part left, sign string) left {
	switch sign {
	case "*":
		part.nothing = true
		fallthrough
	case "+":
		m.link(part.last, part.first)
	case "?":
		part.nothing = true
	}
	return part
}
