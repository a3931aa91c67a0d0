package env

import "touchstone/api"

const (
	// mostUnseen is how many bytes are kept without a look at which lists lie in one another's memory.
	// To look costs time, but little memory may hold more than can be gone through, or what has no end.
	mostUnseen = 1 << 20
	// mostTold is how many bytes an answer has, in which no two lists share memory.
	mostTold = 1<<31 - 1
)

// kept are l's declarations in memory that no one else has.
func kept(l []api.Decl) []*api.Decl {
	given := make([]*api.Decl, len(l))
	for i := range l {
		given[i] = &l[i]
	}
	all := copies(given, mostUnseen, new(pool).keep)
	out := make([]*api.Decl, len(all))
	for i := range all {
		out[i] = &all[i]
	}
	return out
}

// told are declarations that are kept, in new memory. Texts are those that are kept: they can't be changed.
func told(l []*api.Decl) []api.Decl {
	return copies(l, mostTold, same)
}

// copies are l's declarations in new memory. No two lists share any of it, if all have at most so many bytes then;
// else they share what those of l share.
func copies(l []*api.Decl, most int, text func(string) string) []api.Decl {
	if w, ok := weigh(l, most); ok {
		return apart(l, w, text)
	}
	return retraced(l, text)
}
