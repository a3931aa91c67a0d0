package env

import "touchstone/api"

// look says what is done with each list that stands in a thing itself, and turn what becomes of it, and of each text.
// They go no further down: what they are made of does, list by list, since terms may be deeper than a stack of calls.

type look struct {
	ctors  func([]api.Ctor)
	terms  func([]api.Term)
	levels func([]api.Level)
}

func (k look) decl(d *api.Decl) {
	k.term(&d.Type)
	k.term(&d.Value)
	k.ctors(d.Ctors)
}

func (k look) ctor(c *api.Ctor) {
	k.term(&c.Type)
}

func (k look) term(t *api.Term) {
	k.levels(t.Levels)
	k.terms(t.Args)
}

func (k look) level(l *api.Level) {
	k.levels(l.Args)
}

type turn struct {
	text   func(string) string
	ctors  func([]api.Ctor) []api.Ctor
	terms  func([]api.Term) []api.Term
	levels func([]api.Level) []api.Level
}

func (u turn) decl(d *api.Decl) {
	d.Name = u.text(d.Name)
	d.Family = u.text(d.Family)
	u.term(&d.Type)
	u.term(&d.Value)
	d.Ctors = u.ctors(d.Ctors)
}

func (u turn) ctor(c *api.Ctor) {
	c.Name = u.text(c.Name)
	u.term(&c.Type)
}

func (u turn) term(t *api.Term) {
	t.Name = u.text(t.Name)
	t.Levels = u.levels(t.Levels)
	t.Args = u.terms(t.Args)
}

func (u turn) level(l *api.Level) {
	l.Args = u.levels(l.Args)
}

// same is a text that stays as it is.
func same(s string) string {
	return s
}
