package graph

// End is what a term comes to, where all steps are taken, wherever in it they may be.
type End struct {
	Is    *Node // nil, as long as it is being found out
	Steps int   // that it took
}

// End is what is known of where n comes to; nil, if nothing is. Of a lift it is the end of what that lifts.
func (n *Node) End() *End {
	return n.Base().goal
}

// Note keeps what is known of where n comes to, or what it lifts.
func (n *Node) Note(e *End) {
	n.Base().goal = e
}
