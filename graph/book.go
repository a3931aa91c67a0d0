package graph

import (
	"touchstone/api"
	"touchstone/env"
)

// Book has what steps ask an environment for, each name read once. What a Node knows of its steps it knows of one Book,
// and of one count of cells: it is not to be handed to another one, or with more.
type Book struct {
	env      *env.Env
	facts    map[string]*fact
	lifts    lifts
	likeness likeness
	open     bool // see IsOpen
}

// NewBook is a Book of e, which is not to change as long as it is asked.
func NewBook(e *env.Env) *Book {
	return &Book{env: e}
}

// fact is what is known of a name.
type fact struct {
	params int
	value  *Node // of a definition
	at     []instance
	turn   int     // of these the one that is the next to go
	family *family // of a recursor
}

// of is what is known of n; nil, if n is no Const with as many Levels as there are parameters.
func (b *Book) of(n *Node) *fact {
	if !n.Is(api.TermConst) || len(n.name()) > api.MaxName { // of a great text, which is no name, nothing is known
		return nil
	}
	f, known := b.facts[n.name()]
	if !known {
		f = b.find(n.name())
		b.note(n.name(), f)
	}
	if n.levels().Len() != f.params {
		return nil
	}
	return f
}

func (b *Book) note(name string, f *fact) {
	if b.facts == nil {
		b.facts = map[string]*fact{}
	}
	b.facts[name] = f
}

func (b *Book) find(name string) *fact {
	d, _ := b.env.Find(name)
	switch d.Kind {
	case api.DeclDef:
		return &fact{params: d.Params, value: Read(&d.Value)}
	case api.DeclRec:
		return &fact{params: d.Params, family: b.family(d.Family)}
	}
	return &fact{}
}

// family is the family of that name, or nil, if none of that name has recursors.
func (b *Book) family(name string) *family {
	d, _ := b.env.Find(name)
	pis := pisOf(Read(&d.Type))
	if d.Kind != api.DeclFamily || d.Count < 0 || d.Count > len(pis) {
		return nil
	}
	f := &family{name: name, params: d.Count, indices: len(pis) - d.Count, book: b}
	for i := range d.Ctors {
		f.ctors = append(f.ctors, &ctor{name: d.Ctors[i].Name, typ: &d.Ctors[i].Type})
	}
	return f
}

// recursor is the family of the recursor that is s's head; nil, if it is none, or its major is not there.
func (b *Book) recursor(s *spine) *family {
	f := b.of(s.head)
	if f == nil || f.family == nil || f.family.major() >= len(s.args) {
		return nil
	}
	return f.family
}

// pisOf are the types of the variables that the Pis bind with which t begins.
func pisOf(t *Node) (types []*Node) {
	for t.Is(api.TermPi) {
		types = append(types, t.Args()[0])
		t = t.Args()[1]
	}
	return types
}
