package env_test

import (
	"fmt"
	"testing"

	"touchstone/api"
	"touchstone/env"
)

// likeness: holds declarations against each other, also such as have no end, or more parts than memory.
type likeness struct {
	terms  map[[2]termSpot]bool // lists that were met: they are alike, if all others are
	levels map[[2]levelSpot]bool
	met    int
	open   []func() bool
}

// isOld tells whether both were met, once so many were that it pays to note them.
func isOld[K comparable](k *likeness, notes map[K]bool, both K, length int) bool {
	k.met += length
	if k.met < 1<<17 || notes[both] {
		return notes[both]
	}
	notes[both] = true
	return false
}

type termSpot struct {
	first  *api.Term
	length int
}

type levelSpot struct {
	first  *api.Level
	length int
}

// alike: all fields are alike, nil as an empty list.
func alike(a, b api.Decl) bool {
	k := likeness{terms: map[[2]termSpot]bool{}, levels: map[[2]levelSpot]bool{}}
	ok := a.Kind == b.Kind && a.Params == b.Params && a.Count == b.Count && a.Name == b.Name && a.Family == b.Family && len(a.Ctors) == len(b.Ctors)
	ok = ok && k.term(&a.Type, &b.Type) && k.term(&a.Value, &b.Value)
	for i := 0; ok && i < len(a.Ctors); i++ {
		ok = a.Ctors[i].Name == b.Ctors[i].Name && k.term(&a.Ctors[i].Type, &b.Ctors[i].Type)
	}
	for ok && len(k.open) > 0 {
		next := k.open[len(k.open)-1]
		k.open = k.open[:len(k.open)-1]
		ok = next()
	}
	return ok
}

func (k *likeness) term(a, b *api.Term) bool {
	return a.Kind == b.Kind && a.N == b.N && a.Name == b.Name && k.levelLists(a.Levels, b.Levels) && k.termLists(a.Args, b.Args)
}

func (k *likeness) termLists(a, b []api.Term) bool {
	if len(a) != len(b) || len(a) == 0 {
		return len(a) == len(b)
	}
	both := [2]termSpot{{&a[0], len(a)}, {&b[0], len(b)}}
	if !isOld(k, k.terms, both, len(a)) {
		k.open = append(k.open, func() bool {
			for i := range a {
				if !k.term(&a[i], &b[i]) {
					return false
				}
			}
			return true
		})
	}
	return true
}

func (k *likeness) levelLists(a, b []api.Level) bool {
	if len(a) != len(b) || len(a) == 0 {
		return len(a) == len(b)
	}
	both := [2]levelSpot{{&a[0], len(a)}, {&b[0], len(b)}}
	if !isOld(k, k.levels, both, len(a)) {
		k.open = append(k.open, func() bool {
			for i := range a {
				if a[i].Kind != b[i].Kind || a[i].N != b[i].N || !k.levelLists(a[i].Args, b[i].Args) {
					return false
				}
			}
			return true
		})
	}
	return true
}

// memory: how often each thing was met that lies in a list, its spare room with it.
type memory struct {
	terms  map[*api.Term]int
	levels map[*api.Level]int
	ctors  map[*api.Ctor]int
	sparse bool // each list is gone through but once, and of its things the first and the last are met
}

func newMemory() memory {
	return memory{terms: map[*api.Term]int{}, levels: map[*api.Level]int{}, ctors: map[*api.Ctor]int{}}
}

// memoryOf: what the lists of these lie in, each gone through as often as it stands there.
func memoryOf(l ...api.Decl) memory {
	m := newMemory()
	m.add(l...)
	return m
}

// sparseMemory: some of what the lists of these lie in, which may have no end.
func sparseMemory(l ...api.Decl) memory {
	m := newMemory()
	m.sparse = true
	m.add(l...)
	return m
}

// meet: the things of a list are met. It tells whether the list is still to be gone through.
func meet[T any](list []T, things map[*T]int, sparse bool) bool {
	all := list[:cap(list)]
	if len(all) == 0 {
		return false
	}
	step := 1
	if sparse {
		if things[&list[0]] > 0 && things[&list[len(list)-1]] > 0 {
			return false
		}
		step = max(len(list)-1, 1)
		all = list
	}
	for i := 0; i < len(all); i += step {
		things[&all[i]]++
	}
	return true
}

func (m memory) add(l ...api.Decl) {
	for _, x := range l {
		meet(x.Ctors, m.ctors, false)
		m.addTerm(&x.Type)
		m.addTerm(&x.Value)
		for i := range x.Ctors {
			m.addTerm(&x.Ctors[i].Type)
		}
	}
}

func (m memory) addTerm(t *api.Term) {
	m.addLevels(t.Levels)
	if !meet(t.Args, m.terms, m.sparse) {
		return
	}
	for i := range t.Args {
		m.addTerm(&t.Args[i])
	}
}

func (m memory) addLevels(list []api.Level) {
	if !meet(list, m.levels, m.sparse) {
		return
	}
	for i := range list {
		m.addLevels(list[i].Args)
	}
}

// isApart: no two lists of m share memory, and none shares any with other.
func (m memory) isApart(other memory) bool {
	for p, n := range m.terms {
		if n > 1 || other.terms[p] > 0 {
			return false
		}
	}
	for p, n := range m.levels {
		if n > 1 || other.levels[p] > 0 {
			return false
		}
	}
	for p, n := range m.ctors {
		if n > 1 || other.ctors[p] > 0 {
			return false
		}
	}
	return true
}

// isElsewhere: no list of m shares memory with other.
func (m memory) isElsewhere(other memory) bool {
	for p := range m.terms {
		if other.terms[p] > 0 {
			return false
		}
	}
	for p := range m.levels {
		if other.levels[p] > 0 {
			return false
		}
	}
	for p := range m.ctors {
		if other.ctors[p] > 0 {
			return false
		}
	}
	return true
}

// wantFound: each way to ask e tells want.
func wantFound(t *testing.T, what string, e *env.Env, want api.Decl) {
	t.Helper()
	got, ok := e.Find(want.Name)
	if !ok || !alike(got, want) {
		t.Errorf("%s: Find: %s, %v", what, show(got), ok)
	}
	for _, got := range e.All() {
		if got.Name == want.Name && !alike(got, want) {
			t.Errorf("%s: All: %s", what, show(got))
		}
	}
}

// show: a declaration, for what a test tells.
func show(x api.Decl) string {
	return fmt.Sprintf("%d %d %d %.30q %.30q, %d Ctors", x.Kind, x.Params, x.Count, x.Name, x.Family, len(x.Ctors))
}
