package env

import "touchstone/api"

// retraced are l's declarations in new memory, that lies as the old one does: it has each thing once, however many
// lists it is in, and is no greater. Where the old one has no end, the new one has none.
func retraced(l []*api.Decl, text func(string) string) []api.Decl {
	var ctors ground[api.Ctor]
	var terms ground[api.Term]
	var levels ground[api.Level]
	k := look{ctors.enter, terms.enter, levels.enter}
	for _, d := range l {
		k.decl(d)
	}
	ctors.survey(k.ctor)
	terms.survey(k.term)
	levels.survey(k.level)

	u := turn{text, ctors.moved, terms.moved, levels.moved}
	ctors.move(u.ctor)
	terms.move(u.term)
	levels.move(u.level)
	out := make([]api.Decl, len(l))
	for i, d := range l {
		out[i] = *d
		u.decl(&out[i])
	}
	return out
}
