package graph

import (
	"sort"

	"touchstone/api"
)

// lift is a term with its free variables greater than they were: the greater they are, the more.
// It has all lifts of a term in one, however many: else each part that is asked for would go through all of them.
type lift struct {
	of    *Node
	under int // binders that lie between the term and where its variables are counted
	*raise
}

// raise is what becomes of variables.
type raise struct {
	rises []rise // rising, in from and in by
	sharing
}

// rise says that variables from one on are greater by by, up to where the next rise begins.
type rise struct{ from, by int }

// lifted is n with its free variables from the number from on greater by by. Its parts are lifted once they are asked
// for: most never are, and one term may be put in many places.
func lifted(n *Node, by, from int) *Node {
	if by == 0 || n.free <= from {
		return n
	}
	l := lift{of: n, raise: new(raise)}
	if n.late != nil {
		l = *n.late
	}
	return l.more(by, l.cut(from)).node()
}

// node is the term that l says.
func (l lift) node() *Node {
	free := l.number(l.of.free-1) + 1
	if free == l.of.free { // if the greatest one stays, all do
		return l.of
	}
	return &Node{
		late:    &l,
		size:    l.of.size,
		free:    free,
		leveled: l.of.leveled,
		unfit:   l.of.unfit,
		ended:   l.of.ended,
		tries:   l.of.tries,
	}
}

// number is what becomes of a variable.
func (l *lift) number(n int) int {
	ahead := sort.Search(len(l.rises), func(i int) bool { return l.rises[i].from+l.under > n })
	return n + l.by(ahead)
}

// by is by how much variables are greater behind so many rises.
func (l *lift) by(ahead int) int {
	if ahead == 0 {
		return 0
	}
	return l.rises[ahead-1].by
}

// cut is a place among the variables of a lift.
type cut struct {
	from  int // where the lift's term is counted
	ahead int // rises that begin there or ahead of it
}

// cut is where the variables begin that become from or greater.
func (l *lift) cut(from int) cut {
	from -= l.under
	c := cut{from, 0}
	for c.ahead < len(l.rises) && c.from >= l.rises[c.ahead].from {
		r := l.rises[c.ahead]
		c = cut{max(from-r.by, r.from), c.ahead + 1}
	}
	return c
}

// more is l with all from c on greater by by more.
func (l lift) more(by int, c cut) lift {
	rises := append([]rise(nil), l.rises[:c.ahead]...)
	if last := c.ahead - 1; c.ahead > 0 && rises[last].from == c.from {
		rises = rises[:last]
	}
	if r := (rise{c.from, l.by(c.ahead) + by}); r.by > l.by(len(rises)) {
		rises = append(rises, r)
	}
	for _, r := range l.rises[c.ahead:] {
		rises = append(rises, rise{r.from, r.by + by})
	}
	l.raise = &raise{rises: rises}
	return l
}

// without is l with all that become from or greater less by count, if none becomes one of so many from there on.
// Else it is nil.
func (l *lift) without(from, count int) *Node {
	c := l.cut(from)
	if c.from+l.by(c.ahead)+l.under < from+count {
		return nil
	}
	return l.more(-count, c).node()
}

// below is n, which stands below l's term and so many of its binders, as it stands below what l says.
func (l *lift) below(n *Node, binders int) *Node {
	return l.one(spot{n, l.under + binders}, l.at)
}

// at is the part at s, as it stands below what l says.
func (l *lift) at(s spot) *Node {
	if s.of.late == nil {
		return lift{s.of, s.binders, l.raise}.node()
	}
	// The last one comes first: it begins elsewhere once there are those ahead of it.
	n := s.of
	for i := len(l.rises) - 1; i >= 0; i-- {
		n = lifted(n, l.rises[i].by-l.by(i), l.rises[i].from+s.binders)
	}
	return n
}

// feed is a term lifted by times, and applied to as many variables, the outermost one first.
type feed struct {
	of    *Node
	times int
}

// Fed is n below one binder more, applied to the variable that this binds. What is fed again and again takes no more
// room for that, as long as nobody asks what stands in it.
func (n *Node) Fed() *Node {
	f := feed{n, 0}
	if n.fed != nil {
		f = *n.fed
	}
	out := fed(f.of, f.times+1)
	out.ended, out.tries = n.ended, n.tries
	return out
}

// fed is n lifted by times, and applied to as many variables.
func fed(n *Node, times int) *Node {
	if times == 0 {
		return n
	}
	return &Node{
		fed:     &feed{n, times},
		size:    min(n.size+2*times, mostSize),
		free:    n.free + times,
		leveled: n.leveled,
		unfit:   n.unfit,
	}
}

// show makes what stands in n itself, and leaves what stands below for later.
func (n *Node) show() {
	switch {
	case n.late != nil:
		n.showLifted()
	case n.fed != nil:
		n.showFed()
	}
}

func (n *Node) showLifted() {
	l := n.late
	n.late = nil
	of := l.of
	of.show()
	n.kind, n.number, n.name, n.levels = of.kind, of.number, of.name, of.levels
	if len(of.args) == 0 { // of all that have none, only a Var that is lifted is ever late
		n.number = l.number(of.number)
		return
	}
	n.args = make([]*Node, len(of.args))
	for i, a := range of.args {
		n.args[i] = l.below(a, n.binds(i))
	}
}

func (n *Node) showFed() {
	f := n.fed
	n.fed = nil
	n.kind = api.TermApp
	n.args = []*Node{lifted(fed(f.of, f.times-1), 1, 0), variable(0)}
}
