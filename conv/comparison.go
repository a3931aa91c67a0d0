package conv

import (
	"slices"

	"touchstone/api"
	"touchstone/graph"
	"touchstone/meter"
)

const (
	// mostDeep is how many calls are in one another. Terms may be deeper, and what comes of them has no end but its fuel.
	mostDeep = 1 << 12
	// mostSmall is how many parts a term has that is looked at ahead of its turn.
	mostSmall = 1 << 6
)

// pair is two terms of which it is asked whether they mean the same.
type pair struct{ a, b *graph.Node }

// pairsOf are those of the terms of two lists, in order.
func pairsOf(a, b []*graph.Node) []pair {
	list := make([]pair, len(a))
	for i := range list {
		list[i] = pair{a[i], b[i]}
	}
	return list
}

// wait is a pair that waits for its turn, and how many that are alike have theirs ahead of it. These take a step each,
// and nothing else: there may be as many as there is fuel.
type wait struct {
	pair
	alike int
}

// comparison asks of pairs whether they mean the same: that one does just if all do by which it does.
type comparison struct {
	likeness
	book    *graph.Book
	meter   api.Meter
	err     api.Errno // why a pair could not be asked
	waiting []wait    // where calls would have been too deep: the next one last
}

// means tells whether p's terms mean the same.
func (c *comparison) means(p pair) bool {
	c.leave([]pair{p})
	for len(c.waiting) > 0 {
		last := len(c.waiting) - 1
		w := c.waiting[last]
		c.waiting = c.waiting[:last]
		if !c.pay(w.alike) {
			return false
		}
		rest, ok := c.row([]pair{w.pair}, 1)
		if !ok {
			return false
		}
		c.leave(rest)
	}
	return true
}

// leave makes pairs wait, ahead of all that wait already.
func (c *comparison) leave(rest []pair) {
	for _, p := range slices.Backward(rest) {
		last := len(c.waiting) - 1
		if last >= 0 && p.a.Size() <= mostSmall && c.holds(p) {
			c.waiting[last].alike++
			continue
		}
		c.waiting = append(c.waiting, wait{pair: p})
	}
}

// pay takes so many steps, if there are as many.
func (c *comparison) pay(steps int) bool {
	if steps == 0 {
		return true
	}
	if steps > c.meter.Fuel {
		c.err = api.ErrFuel
	}
	c.meter = meter.Less(c.meter, steps)
	return c.err == api.OK
}

// row asks pair by pair, as long as they mean the same. Where calls would be too deep, rest are the pairs
// that are still to be asked, in order.
func (c *comparison) row(row []pair, deep int) (rest []pair, ok bool) {
	for len(row) > 0 && len(rest) == 0 {
		p := row[0]
		row[0] = pair{} // what was asked is not kept
		row = row[1:]
		by, is := c.ask(p)
		if !is {
			return nil, false
		}
		switch {
		case len(row) == 0: // there is nothing to come back for
			row = by
		case deep == mostDeep:
			rest = by
		default:
			if rest, is = c.row(by, deep+1); !is {
				return nil, false
			}
		}
	}
	return append(rest, row...), true
}

// ask takes p's own step, and tells by which pairs p's terms mean the same: by none, if they do. Not ok: they don't.
func (c *comparison) ask(p pair) (by []pair, ok bool) {
	if c.meter, c.err = meter.Step(c.meter); c.err != api.OK {
		return nil, false
	}
	if c.alike(p) {
		return nil, true
	}
	ends := pair{c.end(p.a), c.end(p.b)}
	if c.err == api.OK && ends != p && c.alike(ends) {
		return nil, true
	}
	if c.err != api.OK {
		return nil, false
	}
	for _, way := range [...]func(pair) []pair{c.binders, c.functions, c.spines} {
		if by = way(ends); len(by) > 0 {
			return by, true
		}
	}
	return nil, false
}

// alike tells whether p's terms are alike. To be too great to tell is to be greater than may be.
func (c *comparison) alike(p pair) bool {
	is := c.holds(p)
	if c.lost {
		c.err = api.ErrCells
	}
	return is
}

// end is n behind all steps that its head takes, unless there was an error.
func (c *comparison) end(n *graph.Node) *graph.Node {
	if c.err == api.OK {
		n, c.meter, c.err = c.book.Whnf(n, c.meter)
	}
	return n
}

// binders are the pairs by which two Pis, or two Lams, mean the same.
func (c *comparison) binders(p pair) []pair {
	for _, kind := range [...]int{api.TermPi, api.TermLam} {
		if p.a.Is(kind) && p.b.Is(kind) {
			return pairsOf(p.a.Args(), p.b.Args())
		}
	}
	return nil
}

// functions is the pair by which a Lam, and what is none, mean the same.
func (c *comparison) functions(p pair) []pair {
	a, b := p.a.Is(api.TermLam), p.b.Is(api.TermLam)
	switch {
	case a && !b:
		return []pair{{p.a.Args()[1], p.b.Fed()}}
	case b && !a:
		return []pair{{p.a.Fed(), p.b.Args()[1]}}
	}
	return nil
}

// spines are the pairs by which a Var, or a Const, means the same, applied to one list and to another.
func (c *comparison) spines(p pair) []pair {
	a, argsA := p.a.Spine()
	b, argsB := p.b.Spine()
	if !a.Is(api.TermVar) && !a.Is(api.TermConst) || len(argsA) != len(argsB) || !c.holds(pair{a, b}) {
		return nil
	}
	return pairsOf(argsA, argsB)
}
