package conv

import (
	"slices"

	"touchstone/api"
	"touchstone/graph"
	"touchstone/meter"
)

const (
	// mostDeep is how many calls are in one another. Terms may be deeper, and what comes of them has no end but its fuel.
	mostDeep = 1 << 12
	// mostSmall is how many parts a term has that is looked at ahead of its turn.
	mostSmall = 1 << 6
)

// pairsOf are those of the terms of two lists, in order.
func pairsOf(a, b []*graph.Node) []graph.Pair {
	list := make([]graph.Pair, len(a))
	for i := range list {
		list[i] = graph.Pair{A: a[i], B: b[i]}
	}
	return list
}

// wait is a pair that waits for its turn, and how many that are alike have theirs ahead of it. These take a step each,
// and nothing else: there may be as many as there is fuel.
type wait struct {
	graph.Pair
	alike int
}

// comparison asks of pairs whether they mean the same: that one does just if all do by which it does.
type comparison struct {
	book    *graph.Book
	meter   api.Meter
	err     api.Errno // why a pair could not be asked
	waiting []wait    // where calls would have been too deep: the next one last
}

// means tells whether p's terms mean the same.
func (c *comparison) means(p graph.Pair) bool {
	c.leave([]graph.Pair{p})
	for len(c.waiting) > 0 {
		last := len(c.waiting) - 1
		w := c.waiting[last]
		c.waiting = c.waiting[:last]
		if !c.pay(w.alike) {
			return false
		}
		rest, ok := c.row([]graph.Pair{w.Pair}, 1)
		if !ok {
			return false
		}
		c.leave(rest)
	}
	return true
}

// leave makes pairs wait, ahead of all that wait already.
func (c *comparison) leave(rest []graph.Pair) {
	for _, p := range slices.Backward(rest) {
		last := len(c.waiting) - 1
		if last >= 0 && p.A.Size() <= mostSmall && c.book.AreAlike(p) {
			c.waiting[last].alike++
			continue
		}
		c.waiting = append(c.waiting, wait{Pair: p})
	}
}

// pay takes so many steps, if there are as many.
func (c *comparison) pay(steps int) bool {
	if steps == 0 {
		return true
	}
	if steps > c.meter.Fuel {
		c.err = api.ErrFuel
	}
	c.meter = meter.Less(c.meter, steps)
	return c.err == api.OK
}

// row asks pair by pair, as long as they mean the same. Where calls would be too deep, rest are the pairs
// that are still to be asked, in order.
func (c *comparison) row(row []graph.Pair, deep int) (rest []graph.Pair, ok bool) {
	for len(row) > 0 && len(rest) == 0 {
		p := row[0]
		row[0] = graph.Pair{} // what was asked is not kept
		row = row[1:]
		by, is := c.ask(p)
		if !is {
			return nil, false
		}
		switch {
		case len(row) == 0: // there is nothing to come back for
			row = by
		case deep == mostDeep:
			rest = by
		default:
			if rest, is = c.row(by, deep+1); !is {
				return nil, false
			}
		}
	}
	return append(rest, row...), true
}

// ask takes p's own step, and tells by which pairs p's terms mean the same: by none, if they do. Not ok: they don't.
func (c *comparison) ask(p graph.Pair) (by []graph.Pair, ok bool) {
	if c.meter, c.err = meter.Step(c.meter); c.err != api.OK {
		return nil, false
	}
	if c.book.AreAlike(p) {
		return nil, true
	}
	ends := graph.Pair{A: c.end(p.A), B: c.end(p.B)}
	if c.err != api.OK {
		return nil, false
	}
	if ends != p && c.book.AreAlike(ends) {
		return nil, true
	}
	for _, way := range [...]func(graph.Pair) []graph.Pair{c.binders, c.functions, c.spines} {
		if by = way(ends); len(by) > 0 {
			return by, true
		}
	}
	return nil, false
}

// end is n behind all steps that its head takes, unless there was an error.
func (c *comparison) end(n *graph.Node) *graph.Node {
	if c.err == api.OK {
		n, c.meter, c.err = c.book.Whnf(n, c.meter)
	}
	return n
}

// binders are the pairs by which two Pis, or two Lams, mean the same.
func (c *comparison) binders(p graph.Pair) []graph.Pair {
	for _, kind := range [...]int{api.TermPi, api.TermLam} {
		if p.A.Is(kind) && p.B.Is(kind) {
			return pairsOf(p.A.Args(), p.B.Args())
		}
	}
	return nil
}

// functions is the pair by which a Lam, and what is none, mean the same.
func (c *comparison) functions(p graph.Pair) []graph.Pair {
	a, b := p.A.Is(api.TermLam), p.B.Is(api.TermLam)
	switch {
	case a && !b:
		return []graph.Pair{{A: p.A.Args()[1], B: c.book.Fed(p.B)}}
	case b && !a:
		return []graph.Pair{{A: c.book.Fed(p.A), B: p.B.Args()[1]}}
	}
	return nil
}

// spines are the pairs by which a Var, or a Const, means the same, applied to one list and to another.
func (c *comparison) spines(p graph.Pair) []graph.Pair {
	a, argsA := p.A.Spine()
	b, argsB := p.B.Spine()
	if !a.Is(api.TermVar) && !a.Is(api.TermConst) || len(argsA) != len(argsB) || !c.book.AreAlike(graph.Pair{A: a, B: b}) {
		return nil
	}
	return pairsOf(argsA, argsB)
}
