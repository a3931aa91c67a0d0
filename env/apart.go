package env

import "touchstone/api"

// apart are l's declarations, whose weight is w, in new memory, of which no two lists share any.
func apart(l []*api.Decl, w weight, text func(string) string) []api.Decl {
	ctors, terms, levels := newSlab[api.Ctor](w.ctors), newSlab[api.Term](w.terms), newSlab[api.Level](w.levels)
	u := turn{text, ctors.copied, terms.copied, levels.copied}
	out := make([]api.Decl, len(l))
	for i, d := range l {
		out[i] = *d
		u.decl(&out[i])
	}
	ctors.finish(u.ctor)
	terms.finish(u.term)
	levels.finish(u.level)
	return out
}

// slab is new memory for lists, one behind the other.
type slab[T any] struct {
	things []T // with room for all that will come: lists are pieces of it
}

func newSlab[T any](room int) *slab[T] {
	return &slab[T]{make([]T, 0, room)}
}

// copied is list in new memory. Its things still have the lists of those that they are copies of.
func (s *slab[T]) copied(list []T) []T {
	if len(list) == 0 {
		return nil
	}
	from := len(s.things)
	s.things = append(s.things, list...)
	return s.things[from:len(s.things):len(s.things)]
}

// finish turns all things, those too that come by it.
func (s *slab[T]) finish(each func(*T)) {
	for i := 0; i < len(s.things); i++ {
		each(&s.things[i])
	}
}
