package names

import "strings"

// word is a text of a list.
type word string

// words are the texts of all lists, one behind the other.
func words(lists ...[]string) (all []word) {
	for _, l := range lists {
		for _, s := range l {
			all = append(all, word(s))
		}
	}
	return all
}

// order is below 0, if w stands ahead of other, and above 0, if it stands behind it.
func (w word) order(other word) int {
	return strings.Compare(string(w), string(other))
}

// fresh is w in memory of its own: what is told must not hold what was handed in.
func (w word) fresh() string {
	return strings.Clone(string(w))
}

// each is what turn makes of each of l, in order.
func each[A, B any](l []A, turn func(A) B) []B {
	out := make([]B, len(l))
	for i, x := range l {
		out[i] = turn(x)
	}
	return out
}
