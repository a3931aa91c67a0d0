package graph

import (
	"slices"

	"touchstone/api"
)

// family is an inductive family, as its recursors see it.
type family struct {
	name            string
	params, indices int
	ctors           []*ctor
	book            *Book
}

// ctor is a constructor of a family.
type ctor struct {
	name   string
	typ    *api.Term // as long as it was not read
	fields []*Node   // their types, each as seen from where it stands in the constructor's
}

// fixed is how many arguments of a recursor all its hypotheses have: parameters, the motive, cases.
func (f *family) fixed() int {
	return f.params + 1 + len(f.ctors)
}

// major is the place of a recursor's major.
func (f *family) major() int {
	return f.fixed() + f.indices
}

// fieldsOf are the types of the fields of c.
func (f *family) fieldsOf(c *ctor) []*Node {
	if c.typ != nil {
		pis := pisOf(Read(c.typ))
		c.fields = pis[min(f.params, len(pis)):]
		c.typ = nil
	}
	return c.fields
}

// isRecursive tells whether a field of that type is recursive.
func (f *family) isRecursive(field *Node) bool {
	for field.Is(api.TermPi) {
		field = field.Args()[1]
	}
	for field.Is(api.TermApp) {
		field = field.Args()[0]
	}
	return field.Is(api.TermConst) && field.name() == f.name
}

// change is what brings t, whose head is a recursor of f, on by its major; nil, if that is no constructor's term.
func (f *family) change(t, major *spine) func() {
	if !major.head.Is(api.TermConst) {
		return nil
	}
	place := slices.IndexFunc(f.ctors, major.isOf)
	if place < 0 || len(major.args) != f.params+len(f.fieldsOf(f.ctors[place])) {
		return nil
	}
	return caseOf{f, place, t, major}.enter
}

// isOf tells whether s's head has c's name.
func (s *spine) isOf(c *ctor) bool {
	return s.head.name() == c.name
}

// caseOf is a term whose head is a recursor, with a major that is a term of the constructor at that place.
type caseOf struct {
	family   *family
	place    int
	t, major *spine
}

// enter makes t that constructor's case, applied to its fields and their hypotheses.
func (c caseOf) enter() {
	f, t := c.family, c.t
	fields := c.major.between(f.params, len(c.major.args))
	hypotheses := c.hypotheses(fields)
	chosen := t.at(f.params + 1 + c.place)
	t.drop(f.major() + 1)
	t.pushAll(hypotheses)
	t.pushAll(fields)
	t.enter(chosen)
}

// hypotheses are those of the recursive ones of fields, in order.
func (c caseOf) hypotheses(fields []*Node) (list []*Node) {
	f, t := c.family, c.t
	given := append(t.between(0, f.params), fields...)
	fixed := t.first(f.fixed())
	levels := relevelBy(t.head.levels().all())
	for i, typ := range f.ctors[c.place].fields {
		if !f.isRecursive(typ) {
			continue
		}
		f.book.open = f.book.open || typ.free > f.params+i
		h := hypothesis{fixed, f.book.lifts.put(given[:f.params+i]...), fields[i]}
		list = append(list, h.of(levels.with(typ), f.params))
	}
	return list
}

// hypothesis is what a hypothesis is made of: a recursor with the arguments that all of them have, what stands for
// the variables of the field's type, and the field.
type hypothesis struct {
	fixed *Node
	put   *put
	field *Node
}

// of is the hypothesis of a field of type t, behind the family's parameters.
func (h hypothesis) of(t *Node, params int) *Node {
	types := pisOf(t)
	binders := len(types)
	for range types {
		t = t.Args()[1]
	}
	end := spineOf(t)
	out := h.put.lifts.lifted(h.fixed, binders, 0)
	for _, index := range end.between(params, len(end.args)) {
		out = Branch(api.TermApp, out, h.put.below(index, binders))
	}
	out = Branch(api.TermApp, out, h.put.lifts.lifted(h.field, binders, 0).Applied(variables(binders)))
	for i, typ := range slices.Backward(types) {
		out = Branch(api.TermLam, h.put.below(typ, i), out)
	}
	return out
}

// variables are those that so many binders bind, the outermost first.
func variables(binders int) (list []*Node) {
	for i := range binders {
		list = append(list, variable(binders-1-i))
	}
	return list
}
