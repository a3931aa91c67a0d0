package graph

import (
	"touchstone/api"
	"touchstone/meter"
)

// machine takes steps of a term, and of majors on the way: these stand in a list, since a major may have
// a major of its own, and so on, deeper than a stack of calls.
type machine struct {
	book  *Book
	meter api.Meter
	tasks []*task // the term, then the major of each one ahead that is a recursor's
	loop  loop
}

// task is a term of which steps are taken.
type task struct {
	from  *Node
	spine *spine // what became of it
	took  int    // steps of it
	fuel  int    // what was left behind the last of these
}

// term is what became of t: itself, if it took no step.
func (t *task) term() *Node {
	if t.took == 0 {
		return t.from
	}
	return t.spine.term()
}

// run takes steps of n till it takes none, or took so many.
func (x *machine) run(n *Node, most int) api.Errno {
	if n.endless {
		return api.ErrCells
	}
	x.open(n)
	kinds := [...]func(*spine) func(){x.lam, x.let, x.definition}
steps:
	for x.tasks[0].took < most {
		s := x.last().spine
		for _, kind := range kinds {
			if change := kind(s); change != nil {
				if err := x.take(change); err != api.OK {
					return err
				}
				continue steps
			}
		}
		if f := x.book.recursor(s); f != nil {
			if x.loop.closes(x.tasks) { // and takes all steps that there are
				x.meter.Fuel = 0
				return api.ErrFuel
			}
			known, err := x.openMajor(s.at(f.major()))
			if err != api.OK {
				return err
			}
			if !known {
				continue steps
			}
		}
		// A major at its end ends the recursor beneath it, too, if that is not brought on by it.
		for len(x.tasks) > 1 {
			if change := x.close(); change != nil {
				if err := x.take(change); err != api.OK {
					return err
				}
				continue steps
			}
		}
		break steps
	}
	return api.OK
}

// open begins to take steps of n.
func (x *machine) open(n *Node) {
	x.tasks = append(x.tasks, &task{from: n, spine: spineOf(n), fuel: x.meter.Fuel})
}

// openMajor begins with a major. known: that takes no step.
func (x *machine) openMajor(n *Node) (known bool, err api.Errno) {
	x.open(n)
	if n.ended {
		_, x.meter, err = n.again(x.meter)
	}
	return n.ended, err
}

// last is the task that was opened last.
func (x *machine) last() *task {
	return x.tasks[len(x.tasks)-1]
}

// close ends the last major, and tells what it does to the term beneath it.
func (x *machine) close() (change func()) {
	major := x.last()
	if major.took == 0 {
		major.from.end(major.fuel - x.meter.Fuel)
	}
	x.tasks = x.tasks[:len(x.tasks)-1]
	beneath := x.last().spine
	return x.book.recursor(beneath).change(beneath, major.spine)
}

// take takes a step of the last task.
func (x *machine) take(change func()) (err api.Errno) {
	if x.meter, err = meter.Step(x.meter); err != api.OK {
		return err
	}
	t := x.last()
	change()
	if !t.spine.fits(x.meter.Cells) {
		return api.ErrCells
	}
	t.took++
	t.fuel = x.meter.Fuel
	return api.OK
}

// lam is what a step does to s, if that is a Lam with an argument.
func (x *machine) lam(s *spine) func() {
	if !s.head.Is(api.TermLam) || len(s.args) == 0 {
		return nil
	}
	return s.enterLam
}

func (s *spine) enterLam() {
	value := s.at(0)
	s.drop(1)
	s.enter(putOf(value).below(s.head.args[1], 0))
}

// let is what a step does to s, if that is a Let.
func (x *machine) let(s *spine) func() {
	if !s.head.Is(api.TermLet) {
		return nil
	}
	return s.enterLet
}

func (s *spine) enterLet() {
	s.enter(putOf(s.head.args[1]).below(s.head.args[2], 0))
}

// definition is what a step does to s, if that is a definition.
func (x *machine) definition(s *spine) func() {
	value := x.book.of(s.head).value
	if value == nil {
		return nil
	}
	return defined{s, value}.enter
}

// defined is a term whose head is a definition of that value.
type defined struct {
	t     *spine
	value *Node
}

func (d defined) enter() {
	d.t.enter(relevelBy(d.t.head.levels.all()).of(d.value))
}
