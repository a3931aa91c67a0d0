package graph

import (
	"slices"

	"touchstone/api"
	"touchstone/term"
)

// mostParts is how many parts a term that is handed in does not have. One that has may have no end.
const mostParts = 1 << 20

// endless stands for what can't be read: it takes no step, fits nowhere, is alike to nothing, and is not told.
func endless() *Node {
	return &Node{kind: -1, size: mostSize, unfit: true, endless: true}
}

// reading is a term that is to be read, and the place for its node.
type reading struct {
	from *api.Term
	to   **Node
}

// Read is t as a node. What is still to be read stands in a list, since terms may be deeper than a stack of calls.
func Read(t *api.Term) (out *Node) {
	if term.Size(*t, mostParts-1) == mostParts {
		return endless()
	}
	var levels fitting // one for all parts: they may share their Levels
	open := []reading{{t, &out}}
	var all []*Node
	for len(open) > 0 {
		last := len(open) - 1
		from, to := open[last].from, open[last].to
		open = open[:last]
		n := &Node{kind: from.Kind, number: from.N, label: labelOf(from.Name, Levels{list: from.Levels})}
		n.unfit = !levels.fit(from.Levels)
		if len(from.Args) > 0 {
			n.args = make([]*Node, len(from.Args))
		}
		for i := range from.Args {
			open = append(open, reading{&from.Args[i], &n.args[i]})
		}
		*to = n
		all = append(all, n)
	}
	for _, n := range slices.Backward(all) {
		n.settle()
	}
	return out
}
