// Package graph: terms as nodes that share what they have in common, and steps of their heads.
package graph

import (
	"math"

	"touchstone/api"
)

// mostSize is up to where parts are counted. More than that fit nowhere.
const mostSize = math.MaxInt / 4

// argCounts is how many Args a term of each kind has.
var argCounts = [...]int{
	api.TermVar:   0,
	api.TermSort:  0,
	api.TermConst: 0,
	api.TermApp:   2,
	api.TermLam:   2,
	api.TermPi:    2,
	api.TermLet:   3,
}

// boundArgs is which of the Args stands below the binder of a term of each kind.
// It is never the first one: 0 says that there is no binder.
var boundArgs = [...]int{
	api.TermVar:   0,
	api.TermSort:  0,
	api.TermConst: 0,
	api.TermApp:   0,
	api.TermLam:   1,
	api.TermPi:    1,
	api.TermLet:   2,
}

// Node is a term while steps are taken. It knows how great it is and which variables are free in it, so that a step
// shares what it does not turn, however great that is, and need not count what it makes: a term that grows
// at each step would else be copied, and counted, each time.
type Node struct {
	kind, number int
	name         string
	levels       Levels
	args         []*Node
	late         *lift // what it is, as long as nobody asked what stands in it: see show
	fed          *feed // likewise
	size         int   // parts, itself and all below
	free         int   // below which the numbers of its free variables are, as seen from outside
	leveled      bool  // there are Levels in it
	unfit        bool  // one of these is greater than may be
	endless      bool  // it stands for what can't be read
	ended        bool  // its Book knows that it takes no step, applied to variables either
	tries        int   // steps of its majors, each time it is asked for one
}

// Is tells whether n is a term of that kind.
func (n *Node) Is(kind int) bool {
	if n.fed != nil { // an App, whatever stands in it
		return kind == api.TermApp
	}
	n.show()
	return n.kind == kind && len(n.args) == argCounts[kind]
}

// Args are n's Args. They are not to be changed.
func (n *Node) Args() []*Node {
	n.show()
	return n.args
}

// Levels are n's Levels.
func (n *Node) Levels() Levels {
	n.show()
	return n.levels
}

// Size is how many parts n has, itself and all below.
func (n *Node) Size() int {
	return n.size
}

// IsKin tells whether n and o may be alike: all of them is but their Levels, and what stands below, of which it asks
// only how much that is. What has no end is nothing's kin.
func (n *Node) IsKin(o *Node) bool {
	if n.endless || n.size != o.size || n.free != o.free {
		return false
	}
	n.show()
	o.show()
	return n.kind == o.kind && n.number == o.number && n.name == o.name && len(n.args) == len(o.args)
}

// binds is how many binders of n lie around its i-th Args.
func (n *Node) binds(i int) int {
	if i > 0 && n.kind >= 0 && n.kind < len(boundArgs) && i == boundArgs[n.kind] {
		return 1
	}
	return 0
}

// settle finds what n has to know, if its args know it.
func (n *Node) settle() {
	n.size = 1
	n.leveled = n.levels.Len() > 0
	if n.Is(api.TermVar) {
		n.free = max(n.number+1, 0)
	}
	for i, a := range n.args {
		n.size = min(n.size+a.size, mostSize)
		n.free = max(n.free, a.free-n.binds(i))
		n.leveled = n.leveled || a.leveled
		n.unfit = n.unfit || a.unfit
	}
}

// branch is a new term of that kind with these args.
func branch(kind int, args ...*Node) *Node {
	n := &Node{kind: kind, args: args}
	n.settle()
	return n
}

func variable(number int) *Node {
	return &Node{kind: api.TermVar, number: number, size: 1, free: number + 1}
}
