package cleave

import "slices"

// view is what is to be seen of a state while only groups of states are told
// apart: its arrows, each to a group.
type view [maxClasses + 1]arrow

// fewest makes one state of all states that break all rows of classes alike.
// If they were numbered as they come, they are so again: each group of states
// comes where the first one of it did.
func fewest(states [][]arrow) [][]arrow {
	groups := groupsOf(states)
	var made [][]arrow
	for n, arrows := range states {
		if groups[n] == len(made) {
			here := viewOf(arrows, groups)
			made = append(made, slices.Clone(here[:len(arrows)]))
		}
	}
	return made
}

// groupsOf tells the group of each state. At first all states are one group;
// rows that are longer by a class part them further, until they no longer do.
func groupsOf(states [][]arrow) []int {
	groups := make([]int, len(states))
	count := 0
	seen := map[view]int{}
	for {
		clear(seen)
		groups = partedBy(states, groups, seen)
		if len(seen) == count {
			return groups
		}
		count = len(seen)
	}
}

// partedBy parts states by their views, which are numbered as they are seen.
func partedBy(states [][]arrow, groups []int, seen map[view]int) []int {
	parted := make([]int, len(states))
	for n, arrows := range states {
		here := viewOf(arrows, groups)
		number, met := seen[here]
		if !met {
			number = len(seen)
			seen[here] = number
		}
		parted[n] = number
	}
	return parted
}

func viewOf(arrows []arrow, groups []int) view {
	var here view
	for class, over := range arrows {
		here[class] = arrow{groups[over.to], over.breaks}
	}
	return here
}

// asFewAsCanBe tells whether no state breaks all rows as another does.
func asFewAsCanBe(states [][]arrow) bool {
	return len(fewest(states)) == len(states)
}

// asTheyCome tells whether states are numbered as they come, each of them met.
// If not so, an arrow may lead to a state that is not there.
func asTheyCome(states [][]arrow) bool {
	met := 1
	for n, arrows := range states {
		if n == met {
			return false
		}
		for _, over := range arrows {
			if over.to > met {
				return false
			}
			if over.to == met {
				met++
			}
		}
	}
	return met == len(states)
}
