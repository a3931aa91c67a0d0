package graph

import (
	"math"

	"touchstone/api"
)

// noEnd is more steps than any term takes.
const noEnd = math.MaxInt

// Once is t behind one step of its head, if it takes one. n is what is left of m.
func (b *Book) Once(t *Node, m api.Meter) (u *Node, did bool, n api.Meter, err api.Errno) {
	x := machine{book: b, meter: m}
	if err = x.run(t, 1); err != api.OK {
		return nil, false, x.meter, err
	}
	return x.last().term(), x.last().took > 0, x.meter, api.OK
}

// Whnf is t behind all steps that its head takes: t itself, if it takes none. n is what is left of m.
func (b *Book) Whnf(t *Node, m api.Meter) (u *Node, n api.Meter, err api.Errno) {
	b.lifts.forget()
	if t.Base().ended {
		return t.again(m)
	}
	x := machine{book: b, meter: m}
	if err = x.run(t, noEnd); err != api.OK {
		return nil, x.meter, err
	}
	u = x.last().term()
	u.end(x.last().fuel - x.meter.Fuel)
	return u, x.meter, api.OK
}

// Iota is what becomes of t, whose head is a recursor, where its major comes to a constructor's term.
func (b *Book) Iota(t, major *Node) (u *Node, did bool) {
	s, of := spineOf(t), spineOf(major)
	f := b.recursor(s)
	if f == nil {
		return nil, false
	}
	change := f.change(s, of)
	if change == nil {
		return nil, false
	}
	change()
	return s.term(), true
}

// end notes that n takes no step, applied to variables either, and how many its majors take each time one is asked for.
func (n *Node) end(tries int) {
	if !n.Is(api.TermLam) {
		base := n.Base()
		base.ended, base.tries = true, tries
	}
}

// again is what becomes of n, which is known to take no step, when it is asked for steps once more.
func (n *Node) again(m api.Meter) (u *Node, left api.Meter, err api.Errno) {
	tries := n.Base().tries
	if tries > max(m.Fuel, 0) {
		m.Fuel = min(m.Fuel, 0)
		return nil, m, api.ErrFuel
	}
	m.Fuel -= tries
	return n, m, api.OK
}
