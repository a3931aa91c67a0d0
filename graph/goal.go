package graph

// End is what a term comes to, where all steps are taken, wherever in it they may be.
type End struct {
	Is    *Node // nil, as long as it is being found out
	Steps int   // that it took
}

// End is what is known of where n comes to; nil, if nothing is.
func (n *Node) End() *End {
	return n.goal
}

// SetEnd is what is known of where n comes to from now on.
func (n *Node) SetEnd(e *End) {
	n.goal = e
}

// IsOpen tells whether a step was taken by a declaration in which variables are free. It brings these as they are,
// whatever it brings them to: so what comes of a lift need not be a lift of what comes of the term.
func (b *Book) IsOpen() bool {
	return b.open
}
