package whnf

import (
	"math"

	"touchstone/api"
	"touchstone/env"
	"touchstone/meter"
)

// noEnd is more steps than any term takes.
const noEnd = math.MaxInt

// machine takes steps of a term, and of majors on the way: these stand in a list, since a major may have
// a major of its own, and so on, deeper than a stack of calls.
type machine struct {
	book   book
	meter  api.Meter
	given  *node    // the term, as it was handed in
	spines []*spine // what became of it, then the major of each one ahead that is a recursor's
	took   int      // steps of the term itself
}

func newMachine(e *env.Env, t *api.Term, m api.Meter) *machine {
	given := read(t)
	return &machine{book: book{env: e}, meter: m, given: given, spines: []*spine{spineOf(given)}}
}

// run takes steps of the term till it takes none, or took so many.
func (x *machine) run(most int) api.Errno {
	kinds := [...]func(*spine) func(){x.lam, x.let, x.definition}
steps:
	for x.took < most {
		s := x.spines[len(x.spines)-1]
		for _, kind := range kinds {
			if change := kind(s); change != nil {
				if err := x.take(s, change); err != api.OK {
					return err
				}
				continue steps
			}
		}
		if f := x.book.recursor(s); f != nil {
			x.spines = append(x.spines, spineOf(s.at(f.major())))
			continue steps
		}
		// A major at its end ends the recursor beneath it, too, if that is not brought on by it.
		for len(x.spines) > 1 {
			if s, change := x.close(); change != nil {
				if err := x.take(s, change); err != api.OK {
					return err
				}
				continue steps
			}
		}
		break steps
	}
	return api.OK
}

// close ends the last major, and tells what it does to the term beneath it.
func (x *machine) close() (beneath *spine, change func()) {
	last := len(x.spines) - 1
	major := x.spines[last]
	x.spines = x.spines[:last]
	beneath = x.spines[last-1]
	return beneath, x.book.recursor(beneath).change(beneath, major)
}

// take takes a step of s, which is the last of the spines.
func (x *machine) take(s *spine, change func()) (err api.Errno) {
	if x.meter, err = meter.Step(x.meter); err != api.OK {
		return err
	}
	change()
	if !s.fits(x.meter.Cells) {
		return api.ErrCells
	}
	if len(x.spines) == 1 {
		x.took++
	}
	return api.OK
}

// lam is what a step does to s, if that is a Lam with an argument.
func (x *machine) lam(s *spine) func() {
	if !s.head.is(api.TermLam) || len(s.args) == 0 {
		return nil
	}
	return s.enterLam
}

func (s *spine) enterLam() {
	value := s.at(0)
	s.drop(1)
	s.enter(put{[]*node{value}}.below(s.head.args[1], 0))
}

// let is what a step does to s, if that is a Let.
func (x *machine) let(s *spine) func() {
	if !s.head.is(api.TermLet) {
		return nil
	}
	return s.enterLet
}

func (s *spine) enterLet() {
	s.enter(put{s.head.args[1:2]}.below(s.head.args[2], 0))
}

// definition is what a step does to s, if that is a definition.
func (x *machine) definition(s *spine) func() {
	value := x.book.of(s.head).value
	if value == nil {
		return nil
	}
	return defined{s, value}.enter
}

// defined is a term whose head is a definition of that value.
type defined struct {
	t     *spine
	value *node
}

func (d defined) enter() {
	d.t.enter(relevel{d.t.head.levels}.of(d.value))
}

// tell is what became of the term, unless there was an error.
func (x *machine) tell(err api.Errno) (api.Term, api.Errno) {
	if err != api.OK {
		return api.Term{}, err
	}
	u := x.given
	if x.took > 0 {
		u = x.spines[0].term()
	}
	out, ok := told(u)
	if !ok {
		return api.Term{}, api.ErrCells
	}
	return out, api.OK
}
