package graph

import (
	"touchstone/api"
	"touchstone/level"
	"touchstone/term"
)

// twoLists are lists of Levels, as many, that are held against each other place by place.
type twoLists struct{ a, b Levels }

// places are where two Levels lie that are held against each other.
type places struct{ a, b levelPlace }

func (l twoLists) places(i int) places {
	return places{l.a.place(i), l.b.place(i)}
}

// same tells whether the Levels at a place are the Same. Levels that are greater than may be are so at least if they
// are alike in all: those that lie in one place must be, without a look at them.
func (l twoLists) same(i int) bool {
	if p := l.places(i); p.a == p.b {
		return true
	}
	a, b := l.a.at(i), l.b.at(i)
	return level.Equal(a, b) || level.Same(a, b) || term.Equal(sortOf(a), sortOf(b))
}

func sortOf(l api.Level) api.Term {
	return api.Term{Kind: api.TermSort, Levels: []api.Level{l}}
}

// sameLevels tells whether a and b are as many, and the Same place by place.
func (k *likeness) sameLevels(a, b Levels) bool {
	if a.Len() != b.Len() {
		return false
	}
	if a.Len() == 0 {
		return true
	}
	l := twoLists{a, b}
	return k.levels.Hold(a.Len(), l.places, l.same)
}
