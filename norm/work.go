package norm

import (
	"slices"

	"touchstone/api"
	"touchstone/graph"
	"touchstone/meter"
)

// work finds the norm of a term, and of the parts of which that is made. These stand in a list, each a part of the one
// ahead of it: terms may be deeper than a stack of calls, and what comes of them has no end but its fuel.
type work struct {
	book  *graph.Book
	meter api.Meter
	lifts bool // the norm of a lift is that lift of a norm: there may be far more lifts of a term than it has parts
	open  []begun
	loop  graph.Loop
}

// begun is a term whose norm is being found.
type begun struct {
	of    *graph.Node
	by    *graph.Node   // what it lifts, if it is by the norm of that, or itself
	whnf  *graph.Node   // of that
	head  *graph.Node   // of that, if it is no Lam and no Pi
	parts []*graph.Node // what stands in it beside its head: those that have their turn behind them as their norms
	next  int           // the part that has its turn
	turns bool          // a part is not its own norm
	fuel  int           // what there was
}

// norm is n's norm, unless there was an error, or it turns out that nothing is known of lifts.
func (w *work) norm(n *graph.Node) (out *graph.Node, err api.Errno) {
	out, err = w.begin(n)
	for err == api.OK && len(w.open) > 0 && !(w.lifts && w.book.IsOpen()) {
		at := &w.open[len(w.open)-1]
		if out != nil {
			at.take(out)
		}
		if at.next < len(at.parts) {
			out, err = w.begin(at.parts[at.next])
		} else {
			out, err = w.end()
		}
	}
	return out, err
}

// take brings the norm of the part that has its turn.
func (b *begun) take(part *graph.Node) {
	b.turns = b.turns || part != b.parts[b.next]
	b.parts[b.next] = part
	b.next++
}

// begin is n's norm, if that is known; nil, if it is begun.
func (w *work) begin(n *graph.Node) (out *graph.Node, err api.Errno) {
	b := begun{of: n, by: n, fuel: w.meter.Fuel}
	if w.lifts {
		b.by = n.Base()
	}
	if e := b.by.End(); e != nil {
		return w.again(b, e)
	}
	if w.meter, err = meter.Step(w.meter); err != api.OK {
		return nil, err
	}
	if b.whnf, w.meter, err = w.book.Whnf(b.by, w.meter); err != api.OK {
		return nil, err
	}
	b.split()
	b.by.SetEnd(new(graph.End))
	w.open = append(w.open, b)
	if w.comesRound() {
		return nil, w.starve()
	}
	return nil, api.OK
}

// again is the norm of b, which was found, or begun, before.
func (w *work) again(b begun, e *graph.End) (*graph.Node, api.Errno) {
	if e.Is == nil || e.Steps > w.meter.Fuel {
		return nil, w.starve()
	}
	w.meter.Fuel -= e.Steps
	return b.told(e.Is), api.OK
}

// told is b's norm, where out is that of what it is by.
func (b *begun) told(out *graph.Node) *graph.Node {
	if b.by == b.of {
		return out
	}
	return out.LiftedAs(b.of)
}

// comesRound tells whether the term that was begun last stands in its own norm, as far as it can be seen.
func (w *work) comesRound() bool {
	last := len(w.open) - 1
	return w.loop.Closes(last, func(mark int) bool {
		return w.open[mark].by.IsLike(w.open[last].by)
	})
}

// starve is what comes of a term that stands in its own norm: it takes all the fuel that there is.
func (w *work) starve() api.Errno {
	w.meter.Fuel = 0
	return api.ErrFuel
}

// split finds the parts of b's Whnf.
func (b *begun) split() {
	if b.whnf.Is(api.TermLam) || b.whnf.Is(api.TermPi) {
		b.parts = slices.Clone(b.whnf.Args())
		return
	}
	b.head, b.parts = b.whnf.Spine()
}

// end is the norm of the term that was begun last.
func (w *work) end() (*graph.Node, api.Errno) {
	last := len(w.open) - 1
	b := w.open[last]
	w.open[last] = begun{} // its parts are not kept
	w.open = w.open[:last]
	out := w.join(b)
	if !out.Fits(w.meter.Cells) {
		return nil, api.ErrCells
	}
	*b.by.End() = graph.End{Is: out, Steps: b.fuel - w.meter.Fuel}
	return b.told(out), api.OK
}

// join is the norm of a term of whose Whnf all parts are norms.
func (w *work) join(b begun) *graph.Node {
	ways := [graph.Kinds + 1]func(begun) *graph.Node{
		api.TermVar:   w.spine,
		api.TermSort:  w.spine,
		api.TermConst: w.spine,
		api.TermApp:   w.spine,
		api.TermLam:   w.lam,
		api.TermPi:    w.pi,
		api.TermLet:   w.spine,
		graph.Kinds:   w.spine,
	}
	return ways[b.whnf.Kind()](b)
}

// spine is a head, applied to norms.
func (w *work) spine(b begun) *graph.Node {
	if !b.turns {
		return b.whnf
	}
	return b.head.Applied(b.parts)
}

func (w *work) pi(b begun) *graph.Node {
	if !b.turns {
		return b.whnf
	}
	return graph.Branch(api.TermPi, b.parts...)
}

// lam is a Lam of norms; what it applies to its own variable, if it does just that.
func (w *work) lam(b begun) *graph.Node {
	if end := b.parts[1]; end.Is(api.TermApp) {
		if args := end.Args(); args[1].IsVariable(0) && !args[0].UsesFirst() {
			return w.book.Lowered(args[0])
		}
	}
	if !b.turns {
		return b.whnf
	}
	return graph.Branch(api.TermLam, b.parts...)
}
