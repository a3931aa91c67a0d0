package env

import (
	"slices"

	"touchstone/api"
)

// sheet has some declarations, and lies on those that came ahead of them. It never changes:
// environments that have the same ones hold the same sheets, and none sees what comes to another.
type sheet struct {
	beneath *sheet
	start   int            // the place of its first declaration: how many lie beneath
	decls   []*api.Decl    // in order
	places  map[string]int // by their names
}

// end is the place of what comes next: how many there are, with those beneath.
func (s *sheet) end() int {
	if s == nil {
		return 0
	}
	return s.start + len(s.decls)
}

// find is the declaration of that name, of s or beneath, and its place; nil, if there is none.
func (s *sheet) find(name string) (d *api.Decl, place int) {
	if len(name) > api.MaxName { // no name is so long, and a great text would be gone through at each sheet
		return nil, 0
	}
	for ; s != nil; s = s.beneath {
		if place, ok := s.places[name]; ok {
			return s.decls[place-s.start], place
		}
	}
	return nil, 0
}

// with is s with more on it. Sheets from the place own on become one with what lies on them,
// unless they have twice as many declarations: so there are few to look through, and none is written anew often.
func (s *sheet) with(more []*api.Decl, own int) *sheet {
	for s != nil && s.start >= own && len(s.decls) < 2*len(more) {
		more = slices.Concat(s.decls, more)
		s = s.beneath
	}
	out := &sheet{beneath: s, start: s.end(), decls: more, places: make(map[string]int, len(more))}
	for i, d := range more {
		out.places[d.Name] = out.start + i
	}
	return out
}

// all are the declarations of s and all beneath, in order.
func (s *sheet) all() []*api.Decl {
	out := make([]*api.Decl, s.end())
	for ; s != nil; s = s.beneath {
		copy(out[s.start:], s.decls)
	}
	return out
}
