package graph

// UsesFirst tells whether the variable 0 is free in n.
func (n *Node) UsesFirst() bool {
	return n.free > 0 && n.low == 0 && n.least() == 0
}

// seeking is a term of which the least free variable is sought, and which of its Args is next.
type seeking struct {
	of   *Node
	next int
}

// least is the number of n's least free variable, if it has one. Where no binder lies around a part, what is found
// of it is noted. Those that are still sought stand in a list, since terms may be deeper than a stack of calls.
func (n *Node) least() int {
	open := []seeking{{of: n}}
	for len(open) > 0 {
		at := &open[len(open)-1]
		if a := at.unknown(); a != nil {
			open = append(open, seeking{of: a})
			continue
		}
		at.of.settleLow()
		open = open[:len(open)-1]
	}
	return n.low
}

// unknown is the next part that must be known ahead of the term itself, or nil.
func (s *seeking) unknown() *Node {
	if s.of.exact || s.of.late != nil && s.next > 0 {
		return nil
	}
	if s.of.late != nil {
		s.next++
		return s.of.late.of
	}
	for args := s.of.Args(); s.next < len(args); {
		i := s.next
		s.next++
		if a := args[i]; s.of.binds(i) == 0 && a.free > 0 && !a.exact {
			return a
		}
	}
	return nil
}

// settleLow finds n's least free variable, if those of what it lifts, or of its parts below no binder, are known.
func (n *Node) settleLow() {
	if n.exact {
		return
	}
	if l := n.late; l != nil {
		n.low, n.exact = l.rises.number(l.of.low, l.under), true
		return
	}
	low := n.free - 1
	for i, a := range n.Args() {
		switch binds := n.binds(i); {
		case a.free <= binds:
		case binds == 0:
			low = min(low, a.low)
		default:
			low = min(low, a.leastFrom(binds, low+binds)-binds)
		}
	}
	n.low, n.exact = low, true
}

// leastFrom is the number of n's least free variable from one on, or most, if that is less.
func (n *Node) leastFrom(from, most int) int {
	open := []spot{{n, 0}}
	met := map[spot]int{}
	for len(open) > 0 && most > from {
		s := open[len(open)-1]
		open = open[:len(open)-1]
		at, low := s.of, s.of.low-s.binders
		if at.free-s.binders <= from || low >= most {
			continue
		}
		if low >= from && at.exact {
			most = low
			continue
		}
		if at.isGreat() {
			if met[s] > 0 {
				continue
			}
			met[s]++
		}
		for i, a := range at.glance() {
			open = append(open, spot{a, s.binders + at.binds(i)})
		}
	}
	return most
}
