// Package graph: terms as nodes that share what they have in common, whether these are alike, and steps of their heads.
package graph

import (
	"math"

	"touchstone/api"
)

const (
	// mostSize is up to where parts are counted: more than there may be cells.
	mostSize = 1 << 63
	// mostApart is how many parts a term has that is made, and gone through, anew wherever it stands. A greater one may
	// share parts so often that they are more than can be gone through: what is made of it is to share them still.
	mostApart = 1 << 8
	// Kinds is how many kinds of terms there are.
	Kinds = api.TermLet + 1
)

// argCounts is how many Args a term of each kind has.
var argCounts = [...]int{
	api.TermVar:   0,
	api.TermSort:  0,
	api.TermConst: 0,
	api.TermApp:   2,
	api.TermLam:   2,
	api.TermPi:    2,
	api.TermLet:   3,
}

// boundArgs is which of the Args stands below the binder of a term of each kind.
// It is never the first one: 0 says that there is no binder.
var boundArgs = [...]int{
	api.TermVar:   0,
	api.TermSort:  0,
	api.TermConst: 0,
	api.TermApp:   0,
	api.TermLam:   1,
	api.TermPi:    1,
	api.TermLet:   2,
}

// Node is a term while steps are taken. It knows how great it is and which variables are free in it, so that a step
// shares what it does not turn, however great that is, and need not count what it makes: a term that grows
// at each step would else be copied, and counted, each time.
type Node struct {
	kind, number int
	label        *label // what else stands in it
	args         []*Node
	late         *lift  // what it is a lift of, if it is one
	fed          *feed  // what it is an App of, if it is what was fed
	size         uint64 // parts, itself and all below
	free         int    // below which the numbers of its free variables are, as seen from outside
	low          int    // from which on these are
	tries        int    // steps of its majors, each time it is asked for one
	goal         *End   // see End
	class        int    // see classes
	unlike       int    // a class of which it is none
	hidden       bool   // its args are not made yet: see Args
	exact        bool   // one of its free variables is just low
	leveled      bool   // there are Levels in it
	unfit        bool   // one of these is greater than may be
	endless      bool   // it stands for what can't be read
	held, shared bool   // it stands in a place, in several: see hold
	ended        bool   // it takes no step, applied to variables either; of a lift, what it lifts knows this
}

// label is a Name and Levels, as a Const, or a Sort, has them.
type label struct {
	name   string
	levels Levels
}

// labelOf is the label with these; nil, if there are none.
func labelOf(name string, levels Levels) *label {
	if name == "" && levels.Len() == 0 {
		return nil
	}
	return &label{name, levels}
}

// Is tells whether n is a term of that kind.
func (n *Node) Is(kind int) bool {
	return n.kind == kind && n.count() == argCounts[kind]
}

// Kind is n's kind; Kinds, if it is not whole.
func (n *Node) Kind() int {
	if n.kind < 0 || n.kind >= Kinds || !n.Is(n.kind) {
		return Kinds
	}
	return n.kind
}

// IsVariable tells whether n is the variable of that number.
func (n *Node) IsVariable(number int) bool {
	return n.Is(api.TermVar) && n.number == number
}

// count is how many Args n has.
func (n *Node) count() int {
	switch {
	case !n.hidden:
		return len(n.args)
	case n.late != nil:
		return n.late.of.count()
	default:
		return argCounts[api.TermApp]
	}
}

// Args are n's Args. They are not to be changed.
func (n *Node) Args() []*Node {
	if n.hidden {
		n.args, n.hidden = n.makeArgs(), false
	}
	return n.args
}

// glance are n's Args, as Args tells them; those of a small lift are not kept: there may be far more of these, each gone
// through once, than there is room for.
func (n *Node) glance() []*Node {
	if n.hidden && n.late != nil && n.size <= mostApart {
		return n.makeArgs()
	}
	return n.Args()
}

func (n *Node) makeArgs() []*Node {
	if n.late != nil {
		return n.late.args()
	}
	return n.fed.args()
}

// Size is how many parts n has, itself and all below.
func (n *Node) Size() uint64 {
	return n.size
}

// Fits tells whether n has no more than so many parts, and no Level that is greater than may be.
func (n *Node) Fits(cells int) bool {
	return n.size <= uint64(max(cells, 0)) && !n.unfit
}

// isKin tells whether n and o may be alike: all of them is but their Levels, and what stands below, of which it asks
// only how much that is. What has no end is nothing's kin.
func (n *Node) isKin(o *Node) bool {
	return !n.endless && n.size == o.size && n.free == o.free &&
		n.kind == o.kind && n.number == o.number && n.name() == o.name() && n.count() == o.count()
}

func (n *Node) name() string {
	if n.label == nil {
		return ""
	}
	return n.label.name
}

func (n *Node) levels() Levels {
	if n.label == nil {
		return Levels{}
	}
	return n.label.levels
}

// isGreat tells whether n is reached by several ways, and is too great to be gone through by each of them.
func (n *Node) isGreat() bool {
	return n.shared && n.size > mostApart
}

// hold notes that n stands in one place more.
func (n *Node) hold() {
	n.shared = n.shared || n.held
	n.held = true
}

// binds is how many binders of n lie around its i-th Args.
func (n *Node) binds(i int) int {
	if i > 0 && n.kind >= 0 && n.kind < len(boundArgs) && i == boundArgs[n.kind] {
		return 1
	}
	return 0
}

// settle finds what n has to know, if its args know it.
func (n *Node) settle() {
	n.size = 1
	n.leveled = n.levels().Len() > 0
	n.low = math.MaxInt
	if n.Is(api.TermVar) && n.number >= 0 && n.number < math.MaxInt {
		n.free, n.low, n.exact = n.number+1, n.number, true
	}
	for i, a := range n.args {
		a.hold()
		n.size = sum(n.size, a.size)
		n.leveled = n.leveled || a.leveled
		n.unfit = n.unfit || a.unfit
		if binds := n.binds(i); a.free > binds {
			n.free = max(n.free, a.free-binds)
			n.lower(max(a.low-binds, 0), a.exact && a.low >= binds)
		}
	}
}

// lower notes that there are free variables from low on; exact: one is just low.
func (n *Node) lower(low int, exact bool) {
	if low < n.low {
		n.low, n.exact = low, exact
	}
	n.exact = n.exact || low == n.low && exact
}

// sum is how many parts there are in both.
func sum(a, b uint64) uint64 {
	if b > mostSize-a {
		return mostSize
	}
	return a + b
}

// Branch is a new term of that kind with these args.
func Branch(kind int, args ...*Node) *Node {
	n := &Node{kind: kind, args: args}
	n.settle()
	return n
}

func variable(number int) *Node {
	return &Node{kind: api.TermVar, number: number, size: 1, free: number + 1, low: number, exact: true}
}
