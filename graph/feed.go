package graph

import "touchstone/api"

// feed is a term lifted by times, and applied to as many variables, the outermost one first.
type feed struct {
	of    *Node
	times int
	lifts *lifts
}

// Fed is n below one binder more, applied to the variable that this binds. What is fed again and again takes no more
// room for that, as long as nobody asks what stands in it.
func (b *Book) Fed(n *Node) *Node {
	f := feed{of: n, lifts: &b.lifts}
	if n.fed != nil {
		f = *n.fed
	}
	f.times++
	out := f.node()
	base := n.Base()
	out.ended, out.tries = base.ended, base.tries
	return out
}

// node is the term that f says.
func (f feed) node() *Node {
	of := f.of
	if f.times == 0 {
		return of
	}
	return &Node{
		kind:    api.TermApp,
		hidden:  true,
		fed:     &f,
		size:    sum(of.size, 2*uint64(f.times)),
		free:    of.free + f.times,
		exact:   true, // the variable that was bound last is 0
		leveled: of.leveled,
		unfit:   of.unfit,
	}
}

func (f feed) args() []*Node {
	f.times--
	return []*Node{f.lifts.lifted(f.node(), 1, 0), variable(0)}
}
