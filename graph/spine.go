package graph

import "touchstone/api"

// spine is a term: a head that is no App, and what it is applied to.
type spine struct {
	head *Node
	args []arg // the first one last: there steps take them, and bring others
}

// arg is what a head is applied to, and how great it is with all that stand behind it, and their Apps.
type arg struct {
	node  *Node
	size  uint64
	unfit bool
}

func spineOf(t *Node) *spine {
	s := new(spine)
	s.enter(t)
	return s
}

// enter makes t what is applied to s's args.
func (s *spine) enter(t *Node) {
	for t.Is(api.TermApp) {
		args := t.Args()
		s.push(args[1])
		t = args[0]
	}
	s.head = t
}

// push brings an argument ahead of all others.
func (s *spine) push(n *Node) {
	a := arg{n, sum(n.size, 1), n.unfit}
	if len(s.args) > 0 {
		behind := s.args[len(s.args)-1]
		a.size = sum(a.size, behind.size)
		a.unfit = a.unfit || behind.unfit
	}
	s.args = append(s.args, a)
}

// pushAll brings all of list ahead of the others, in order.
func (s *spine) pushAll(list []*Node) {
	for i := range list {
		s.push(list[len(list)-1-i])
	}
}

// drop takes so many arguments, the first ones, away.
func (s *spine) drop(count int) {
	s.args = s.args[:len(s.args)-count]
}

// at is the argument at that place, from 0 on.
func (s *spine) at(place int) *Node {
	return s.args[len(s.args)-1-place].node
}

// between are the arguments from one place on, up to ahead of another.
func (s *spine) between(from, to int) []*Node {
	var list []*Node
	for place := from; place < to; place++ {
		list = append(list, s.at(place))
	}
	return list
}

// fits tells whether s has no more than so many parts, and no Level that is greater than may be.
func (s *spine) fits(cells int) bool {
	size, unfit := s.head.size, s.head.unfit
	if len(s.args) > 0 {
		all := s.args[len(s.args)-1]
		size = sum(size, all.size)
		unfit = unfit || all.unfit
	}
	return size <= uint64(max(cells, 0)) && !unfit
}

// Spine is n's head, that is no App, and what it is applied to, in order.
func (n *Node) Spine() (head *Node, args []*Node) {
	s := spineOf(n)
	return s.head, s.between(0, len(s.args))
}

// Applied is n, applied to args in order.
func (n *Node) Applied(args []*Node) *Node {
	for _, a := range args {
		n = Branch(api.TermApp, n, a)
	}
	return n
}

// first is s's head, applied to so many of its arguments.
func (s *spine) first(count int) *Node {
	return s.head.Applied(s.between(0, count))
}

// term is s as a term.
func (s *spine) term() *Node {
	return s.first(len(s.args))
}
