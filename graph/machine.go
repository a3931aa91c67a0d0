package graph

import (
	"touchstone/api"
	"touchstone/meter"
)

// machine takes steps of a term, and of majors on the way: these stand in a list, since a major may have
// a major of its own, and so on, deeper than a stack of calls.
type machine struct {
	book  *Book
	meter api.Meter
	tasks []*task // the term, then the major of each one ahead that is a recursor's
	loop  Loop
}

// task is a term of which steps are taken.
type task struct {
	from  *Node
	spine *spine // what became of it
	took  int    // steps of it
	fuel  int    // what was left behind the last of these
	lap   lap
}

// term is what became of t: itself, if it took no step.
func (t *task) term() *Node {
	if t.took == 0 {
		return t.from
	}
	return t.spine.term()
}

// run takes steps of n till it takes none, or took so many.
func (x *machine) run(n *Node, most int) api.Errno {
	if n.endless {
		return api.ErrCells
	}
	x.open(n)
	kinds := [...]func(*spine) func(){x.lam, x.let, x.definition}
steps:
	for x.tasks[0].took < most {
		s := x.last().spine
		for _, kind := range kinds {
			if change := kind(s); change != nil {
				if err := x.take(change); err != api.OK {
					return err
				}
				continue steps
			}
		}
		if f := x.book.recursor(s); f != nil {
			if x.comesRound() {
				return x.starve()
			}
			known, err := x.openMajor(s.at(f.major()))
			if err != api.OK {
				return err
			}
			if !known {
				continue steps
			}
		}
		// A major at its end ends the recursor beneath it, too, if that is not brought on by it.
		for len(x.tasks) > 1 {
			if change := x.close(); change != nil {
				if err := x.take(change); err != api.OK {
					return err
				}
				continue steps
			}
		}
		break steps
	}
	return api.OK
}

// open begins to take steps of n.
func (x *machine) open(n *Node) {
	x.tasks = append(x.tasks, &task{from: n, spine: spineOf(n), fuel: x.meter.Fuel})
}

// openMajor begins with a major. known: that takes no step.
func (x *machine) openMajor(n *Node) (known bool, err api.Errno) {
	x.open(n)
	if known = n.Base().ended; known {
		_, x.meter, err = n.again(x.meter)
	}
	return known, err
}

// last is the task that was opened last.
func (x *machine) last() *task {
	return x.tasks[len(x.tasks)-1]
}

// close ends the last major, and tells what it does to the term beneath it.
func (x *machine) close() (change func()) {
	major := x.last()
	if major.took == 0 {
		major.from.end(major.fuel - x.meter.Fuel)
	}
	x.tasks = x.tasks[:len(x.tasks)-1]
	beneath := x.last().spine
	return x.book.recursor(beneath).change(beneath, major.spine)
}

// take takes a step of the last task.
func (x *machine) take(change func()) (err api.Errno) {
	if x.meter, err = meter.Step(x.meter); err != api.OK {
		return err
	}
	x.book.lifts.forget()
	t := x.last()
	change()
	if !t.spine.fits(x.meter.Cells) {
		return api.ErrCells
	}
	t.took++
	t.fuel = x.meter.Fuel
	if t.lap.closes(t.spine, t.took) {
		return x.starve()
	}
	return api.OK
}

// starve is what comes of steps without end: they take all the fuel that there is.
func (x *machine) starve() api.Errno {
	x.meter.Fuel = 0
	return api.ErrFuel
}

// lam is what a step does to s, if that is a Lam with an argument.
func (x *machine) lam(s *spine) func() {
	if !s.head.Is(api.TermLam) || len(s.args) == 0 {
		return nil
	}
	return entering{s, &x.book.lifts}.lam
}

// let is what a step does to s, if that is a Let.
func (x *machine) let(s *spine) func() {
	if !s.head.Is(api.TermLet) {
		return nil
	}
	return entering{s, &x.book.lifts}.let
}

// entering is a term whose head has a variable for which something is put in.
type entering struct {
	*spine
	lifts *lifts
}

func (s entering) lam() {
	value := s.at(0)
	s.drop(1)
	s.enter(s.lifts.put(value).below(s.head.Args()[1], 0))
}

func (s entering) let() {
	args := s.head.Args()
	s.enter(s.lifts.put(args[1]).below(args[2], 0))
}

// definition is what a step does to s, if that is a definition.
func (x *machine) definition(s *spine) func() {
	f := x.book.of(s.head)
	if f == nil || f.value == nil {
		return nil
	}
	return defined{s, f, x.book}.enter
}

// defined is a term whose head is a definition.
type defined struct {
	*spine
	fact *fact
	book *Book
}

func (s defined) enter() {
	s.book.open = s.book.open || s.fact.value.free > 0
	s.spine.enter(s.fact.valueAt(s.head))
}
