package whnf

import "touchstone/api"

// spine is a term: a head that is no App, and what it is applied to.
type spine struct {
	head *node
	args []arg // the first one last: there steps take them, and bring others
}

// arg is what a head is applied to, and how great it is with all that stand behind it, and their Apps.
type arg struct {
	node  *node
	size  int
	unfit bool
}

func spineOf(t *node) *spine {
	s := new(spine)
	s.enter(t)
	return s
}

// enter makes t what is applied to s's args.
func (s *spine) enter(t *node) {
	for t.is(api.TermApp) {
		s.push(t.args[1])
		t = t.args[0]
	}
	s.head = t
}

// push brings an argument ahead of all others.
func (s *spine) push(n *node) {
	a := arg{n, n.size + 1, n.unfit}
	if len(s.args) > 0 {
		behind := s.args[len(s.args)-1]
		a.size = min(a.size+behind.size, mostSize)
		a.unfit = a.unfit || behind.unfit
	}
	s.args = append(s.args, a)
}

// pushAll brings all of list ahead of the others, in order.
func (s *spine) pushAll(list []*node) {
	for i := range list {
		s.push(list[len(list)-1-i])
	}
}

// drop takes so many arguments, the first ones, away.
func (s *spine) drop(count int) {
	s.args = s.args[:len(s.args)-count]
}

// at is the argument at that place, from 0 on.
func (s *spine) at(place int) *node {
	return s.args[len(s.args)-1-place].node
}

// between are the arguments from one place on, up to ahead of another.
func (s *spine) between(from, to int) []*node {
	var list []*node
	for place := from; place < to; place++ {
		list = append(list, s.at(place))
	}
	return list
}

// fits tells whether s has no more than so many parts, and no Level that is greater than may be.
func (s *spine) fits(cells int) bool {
	size, unfit := s.head.size, s.head.unfit
	if len(s.args) > 0 {
		all := s.args[len(s.args)-1]
		size += all.size
		unfit = unfit || all.unfit
	}
	return size <= cells && !unfit
}

// applied is n, applied to args in order.
func applied(n *node, args []*node) *node {
	for _, a := range args {
		n = branch(api.TermApp, n, a)
	}
	return n
}

// first is s's head, applied to so many of its arguments.
func (s *spine) first(count int) *node {
	return applied(s.head, s.between(0, count))
}

// term is s as a term.
func (s *spine) term() *node {
	return s.first(len(s.args))
}
