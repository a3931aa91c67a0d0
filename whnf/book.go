package whnf

import (
	"touchstone/api"
	"touchstone/env"
)

// book has what steps ask an environment for, each name read once.
type book struct {
	env   *env.Env
	facts map[string]fact
}

// fact is what is known of a name.
type fact struct {
	params int
	value  *node   // of a definition
	family *family // of a recursor
}

// of is what is known of n. It is nothing, unless n is a Const with as many Levels as there are parameters.
func (b *book) of(n *node) fact {
	if !n.is(api.TermConst) {
		return fact{}
	}
	f, known := b.facts[n.name]
	if !known {
		f = b.find(n.name)
		b.note(n.name, f)
	}
	if len(n.levels) != f.params {
		return fact{}
	}
	return f
}

func (b *book) note(name string, f fact) {
	if b.facts == nil {
		b.facts = map[string]fact{}
	}
	b.facts[name] = f
}

func (b *book) find(name string) fact {
	d, _ := b.env.Find(name)
	switch d.Kind {
	case api.DeclDef:
		return fact{params: d.Params, value: read(&d.Value)}
	case api.DeclRec:
		return fact{params: d.Params, family: b.family(d.Family)}
	}
	return fact{}
}

// family is the family of that name, or nil, if none of that name has recursors.
func (b *book) family(name string) *family {
	d, _ := b.env.Find(name)
	pis := pisOf(read(&d.Type))
	if d.Kind != api.DeclFamily || d.Count < 0 || d.Count > len(pis) {
		return nil
	}
	f := &family{name: name, params: d.Count, indices: len(pis) - d.Count}
	for i := range d.Ctors {
		f.ctors = append(f.ctors, &ctor{name: d.Ctors[i].Name, typ: &d.Ctors[i].Type})
	}
	return f
}

// recursor is the family of the recursor that is s's head; nil, if it is none, or its major is not there.
func (b *book) recursor(s *spine) *family {
	f := b.of(s.head).family
	if f == nil || f.major() >= len(s.args) {
		return nil
	}
	return f
}

// pisOf are the types of the variables that the Pis bind with which t begins.
func pisOf(t *node) (types []*node) {
	for t.is(api.TermPi) {
		types = append(types, t.args[0])
		t = t.args[1]
	}
	return types
}
