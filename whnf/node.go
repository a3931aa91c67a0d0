package whnf

import (
	"math"

	"touchstone/api"
)

// mostSize is up to where parts are counted. More than that fit nowhere.
const mostSize = math.MaxInt / 4

// argCounts is how many Args a term of each kind has.
var argCounts = [...]int{
	api.TermVar:   0,
	api.TermSort:  0,
	api.TermConst: 0,
	api.TermApp:   2,
	api.TermLam:   2,
	api.TermPi:    2,
	api.TermLet:   3,
}

// boundArgs is which of the Args stands below the binder of a term of each kind.
// It is never the first one: 0 says that there is no binder.
var boundArgs = [...]int{
	api.TermVar:   0,
	api.TermSort:  0,
	api.TermConst: 0,
	api.TermApp:   0,
	api.TermLam:   1,
	api.TermPi:    1,
	api.TermLet:   2,
}

// node is a term while steps are taken. It knows how great it is and which variables are free in it, so that a step
// shares what it does not turn, however great that is, and need not count what it makes: a term that grows
// at each step would else be copied, and counted, each time.
type node struct {
	kind, number int
	name         string
	levels       []api.Level
	args         []*node
	late         *lift // what it is, as long as nobody asked for its kind: see is
	size         int   // parts, itself and all below
	free         int   // below which the numbers of its free variables are, as seen from outside
	leveled      bool  // there are Levels in it
	unfit        bool  // one of these is greater than may be
}

// lift is a term with its free variables from the number from on greater by by.
type lift struct {
	of       *node
	by, from int
}

// is tells whether n is a term of that kind.
func (n *node) is(kind int) bool {
	n.show()
	return n.kind == kind && len(n.args) == argCounts[kind]
}

// binds is how many binders of n lie around its i-th Args.
func (n *node) binds(i int) int {
	if i > 0 && n.kind >= 0 && n.kind < len(boundArgs) && i == boundArgs[n.kind] {
		return 1
	}
	return 0
}

// settle finds what n has to know, if its args know it.
func (n *node) settle() {
	n.size = 1
	n.leveled = len(n.levels) > 0
	if n.is(api.TermVar) {
		n.free = max(n.number+1, 0)
	}
	for i, a := range n.args {
		n.size = min(n.size+a.size, mostSize)
		n.free = max(n.free, a.free-n.binds(i))
		n.leveled = n.leveled || a.leveled
		n.unfit = n.unfit || a.unfit
	}
}

// branch is a new term of that kind with these args.
func branch(kind int, args ...*node) *node {
	n := &node{kind: kind, args: args}
	n.settle()
	return n
}

func variable(number int) *node {
	return &node{kind: api.TermVar, number: number, size: 1, free: number + 1}
}

// lifted is n with its free variables from the number from on greater by by. Its parts are lifted once they are asked
// for: most never are, and one term may be put in many places.
func lifted(n *node, by, from int) *node {
	if by == 0 || n.free <= from {
		return n
	}
	if l := n.late; l != nil && l.from <= from && from <= l.from+l.by {
		return lifted(l.of, l.by+by, l.from)
	}
	n.show()
	return &node{
		late:    &lift{n, by, from},
		size:    n.size,
		free:    n.free + by,
		leveled: n.leveled,
		unfit:   n.unfit,
	}
}

// show lifts what stands in n itself, and leaves what stands below for later.
func (n *node) show() {
	if n.late == nil {
		return
	}
	l := n.late
	n.late = nil
	n.kind, n.number, n.name, n.levels = l.of.kind, l.of.number, l.of.name, l.of.levels
	if len(l.of.args) == 0 { // of all that have none, only a Var that is lifted is ever late
		n.number += l.by
		return
	}
	n.args = make([]*node, len(l.of.args))
	for i, a := range l.of.args {
		n.args[i] = lifted(a, l.by, l.from+n.binds(i))
	}
}
