package term

import (
	"iter"

	"touchstone/api"
)

// mostParts is of how many parts a term is walked: one that is handed in may have no end.
const mostParts = 1 << 20

// argCounts is how many Args a term of each kind has.
var argCounts = [...]int{
	api.TermVar:   0,
	api.TermSort:  0,
	api.TermConst: 0,
	api.TermApp:   2,
	api.TermLam:   2,
	api.TermPi:    2,
	api.TermLet:   3,
}

// boundArgs is which of the Args stands below the binder of a term of each kind.
// It is never the first one: 0 says that there is no binder.
var boundArgs = [...]int{
	api.TermVar:   0,
	api.TermSort:  0,
	api.TermConst: 0,
	api.TermApp:   0,
	api.TermLam:   1,
	api.TermPi:    1,
	api.TermLet:   2,
}

// part is a part of a term, and where it stands in it.
type part struct {
	term    *api.Term
	deep    int // 1, if it is the term itself
	binders int // of the term that lie around it
}

// root is t as a part of itself.
func root(t *api.Term) part {
	return part{term: t, deep: 1}
}

// hasKind tells whether p's Kind is one.
func (p part) hasKind() bool {
	return p.term.Kind >= 0 && p.term.Kind < len(argCounts)
}

// isFormed tells whether p's Kind is one, and p has as many Args as it names.
func (p part) isFormed() bool {
	return p.hasKind() && len(p.term.Args) == argCounts[p.term.Kind]
}

// arg is p's Args[i], as a part of the same term.
func (p part) arg(i int) part {
	binders := p.binders
	if i > 0 && p.hasKind() && i == boundArgs[p.term.Kind] {
		binders++
	}
	return part{&p.term.Args[i], p.deep + 1, binders}
}

// free is p's number as seen from outside the term, if p is a Var that none of the term's binders binds.
func (p part) free() (n int, ok bool) {
	if p.term.Kind != api.TermVar || p.term.N < p.binders {
		return 0, false
	}
	return p.term.N - p.binders, true
}

// isAlike tells whether all fields of p and q but their Levels are alike; of their Args it asks only how many they are.
func (p part) isAlike(q part) bool {
	a, b := p.term, q.term
	return a.Kind == b.Kind && a.N == b.N && a.Name == b.Name && len(a.Args) == len(b.Args)
}

// walk goes through a term: itself first, Args in order. It keeps its own list of where it is,
// since terms may be deeper than a stack of calls.
type walk struct {
	first *api.Term // the term, till it is handed out
	open  []opened
}

// opened is a part of which not all Args are handed out yet.
type opened struct {
	part part
	next int // which of the Args comes next
}

// next is the part that comes next, if there is one.
func (w *walk) next() (p part, ok bool) {
	last := len(w.open) - 1
	switch {
	case w.first != nil:
		p = root(w.first)
		w.first = nil
	case last >= 0:
		o := &w.open[last]
		p = o.part.arg(o.next)
		o.next++
		if o.next == len(o.part.term.Args) {
			w.open = w.open[:last]
		}
	default:
		return part{}, false
	}
	if len(p.term.Args) > 0 {
		w.open = append(w.open, opened{part: p})
	}
	return p, true
}

// parts are the first mostParts parts of t, itself first, Args in order.
func parts(t *api.Term) iter.Seq[part] {
	return func(yield func(part) bool) {
		w := walk{first: t}
		for range mostParts {
			if p, ok := w.next(); !ok || !yield(p) {
				return
			}
		}
	}
}

// count is how often the free Var i stands in t.
func count(t *api.Term, i int) (times int) {
	for p := range parts(t) {
		if n, ok := p.free(); ok && n == i {
			times++
		}
	}
	return times
}
