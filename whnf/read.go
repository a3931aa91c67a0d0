package whnf

import (
	"slices"

	"touchstone/api"
	"touchstone/meter"
	"touchstone/term"
)

// mostParts is how many parts a term that is handed in does not have. One that has may have no end.
const mostParts = 1 << 20

// endless stands for what can't be read: it takes no step, fits nowhere, and is not told.
func endless() *node {
	return &node{kind: -1, size: mostSize, unfit: true}
}

// reading is a term that is to be read, and the place for its node.
type reading struct {
	from *api.Term
	to   **node
}

// read is t as a node. What is still to be read stands in a list, since terms may be deeper than a stack of calls.
func read(t *api.Term) (out *node) {
	if term.Size(*t, mostParts-1) == mostParts {
		return endless()
	}
	// Lists of Levels may lie in one another's memory, so that there are more than can be gone through one by one,
	// as is done only where one of them does not fit.
	allFit := meter.Fits(api.Meter{Cells: mostParts}, *t) == api.OK
	open := []reading{{t, &out}}
	var all []*node
	for len(open) > 0 {
		last := len(open) - 1
		from, to := open[last].from, open[last].to
		open = open[:last]
		n := &node{kind: from.Kind, number: from.N, name: from.Name, levels: from.Levels}
		n.unfit = !allFit && !fit(from.Levels)
		n.args = make([]*node, len(from.Args))
		for i := range from.Args {
			open = append(open, reading{&from.Args[i], &n.args[i]})
		}
		*to = n
		all = append(all, n)
	}
	settleAll(all)
	return out
}

// settleAll settles nodes that were made one by one, each ahead of its args.
func settleAll(all []*node) {
	for _, n := range slices.Backward(all) {
		n.settle()
	}
}

// fit tells whether each of levels is as small as may be.
func fit(levels []api.Level) bool {
	return meter.Fits(api.Meter{Cells: 1}, api.Term{Levels: levels}) == api.OK
}
