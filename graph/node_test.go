package graph

import (
	"math/rand"
	"testing"

	"touchstone/api"
	"touchstone/term"
)

// chance: a term that is drawn, with Vars below and above the binders around them.
func chance(r *rand.Rand, deep int) api.Term {
	if deep == 0 || r.Intn(6) == 0 {
		return api.Term{Kind: api.TermVar, N: r.Intn(9)}
	}
	t := api.Term{Kind: api.TermApp + r.Intn(4)}
	for range argCounts[t.Kind] {
		t.Args = append(t.Args, chance(r, deep-1))
	}
	return t
}

// putBelow: t with values put in, the last one for its free Var 0, as seen from outside so many binders around it.
func putBelow(t api.Term, values []api.Term, binders int) api.Term {
	around := func(kind, times int) {
		for range times {
			t = api.Term{Kind: kind, Args: []api.Term{{Kind: api.TermSort, Levels: []api.Level{{}}}, t}}
		}
	}
	around(api.TermLam, binders)
	around(api.TermPi, len(values))
	for _, v := range values {
		t = term.Put(t.Args[1], v)
	}
	for range binders {
		t = t.Args[1]
	}
	return t
}

// hold: n is told as want, and knows of itself what want is.
func hold(t *testing.T, what string, n *Node, want api.Term) {
	t.Helper()
	size, free, low, exact := n.size, n.free, n.low, n.exact
	got, ok := n.Told()
	if !ok || !term.Equal(got, want) {
		t.Fatalf("%s: %+v, %v, want %+v", what, got, ok, want)
	}
	least, first := 0, 0
	for i := range 80 {
		if term.Uses(want, 79-i) {
			least, first = max(least, 80-i), 79-i
		}
	}
	if size != uint64(term.Size(want, 1<<20)) || free != least {
		t.Fatalf("%s: size %d, free %d, want %d, %d", what, size, free, term.Size(want, 1<<20), least)
	}
	if least > 0 && (low > first || exact && low < first) {
		t.Fatalf("%s: variables from %d on, %v, want from %d on", what, low, exact, first)
	}
	if n.UsesFirst() != term.Uses(want, 0) {
		t.Fatalf("%s: uses the variable 0: %v", what, !term.Uses(want, 0))
	}
	if n.free > 0 && (n.least() != first || n.low != first || !n.exact) {
		t.Fatalf("%s: the least variable is %d, %v, want %d", what, n.low, n.exact, first)
	}
}

// pairing: a node and the term that it is, and what makes nodes.
type pairing struct {
	*rand.Rand
	book *Book
	n    *Node
	x    api.Term
}

// values: up to so many terms, some of them lifted.
func (p *pairing) values(most int) (values []api.Term, nodes []*Node) {
	for range p.Intn(most + 1) {
		v, by := chance(p.Rand, p.Intn(3)), p.Intn(3)
		values = append(values, term.Lift(v, by, 0))
		nodes = append(nodes, p.book.lifts.lifted(Read(&v), by, 0))
	}
	return values, nodes
}

// turn: what is done to a node, and to its term.
func (p *pairing) turn(t *testing.T) {
	n, x := p.n, p.x
	switch p.Intn(8) {
	case 0:
		hold(t, "asked for between", n, x)
	case 1:
		binders := p.Intn(3)
		values, nodes := p.values(3)
		n, x = p.book.lifts.put(nodes...).below(n, binders), putBelow(x, values, binders)
	case 2: // a part, below what it stands below
		if count := len(x.Args); count > 0 {
			at := p.Intn(count)
			n, x = n.Args()[at], x.Args[at]
		}
	case 3:
		n, x = p.book.Fed(n), api.Term{Kind: api.TermApp, Args: []api.Term{term.Lift(x, 1, 0), {Kind: api.TermVar}}}
	case 4:
		if !term.Uses(x, 0) {
			n, x = p.book.Lowered(n), term.Put(x, api.Term{})
		}
	case 5: // applied to itself, where its variables were turned afterwards
		l := p.book.lifts.lifted(n, 2, 1)
		n = Branch(api.TermApp, l.Base(), l.Base()).LiftedAs(l)
		x = term.Lift(x, 2, 1)
		x = api.Term{Kind: api.TermApp, Args: []api.Term{x, x}}
	default:
		by, from := p.Intn(4), p.Intn(9)
		n, x = p.book.lifts.lifted(n, by, from), term.Lift(x, by, from)
	}
	p.n, p.x = n, x
}

// P13.1, P14.2, P15.1: nodes are lifted, lowered, fed, and put in one another, as terms are (5: Lift, Put), however often
// and in whatever order, whether what was lifted was asked for between or not.
func TestNodesLikeTerms(t *testing.T) {
	r := rand.New(rand.NewSource(13))
	for range 30000 {
		p := pairing{Rand: r, book: NewBook(nil), x: chance(r, 1+r.Intn(6))}
		p.n = Read(&p.x)
		for range 1 + r.Intn(14) {
			p.turn(t)
			if term.Size(p.x, 3000) > 3000 {
				break
			}
		}
		hold(t, "at last", p.n, p.x)
	}
}

// share: a term in which p's stands several times, below several binders, each a node that is shared.
func (p *pairing) share() {
	n, x := p.n, p.x
	up := func(by int) (*Node, api.Term) { return p.book.lifts.lifted(n, by, 0), term.Lift(x, by, 0) }
	n1, x1 := up(1)
	n2, x2 := up(2)
	both := func(kind int, a, b *Node, ax, bx api.Term) (*Node, api.Term) {
		return Branch(kind, a, b), api.Term{Kind: kind, Args: []api.Term{ax, bx}}
	}
	switch p.Intn(4) {
	case 0:
		p.n, p.x = both(api.TermApp, n, n, x, x)
	case 1:
		p.n, p.x = both(api.TermLam, n, n1, x, x1)
	case 2:
		in, inX := both(api.TermPi, n1, n2, x1, x2)
		p.n, p.x = both(api.TermLam, n, in, x, inX)
	case 3:
		in, inX := both(api.TermLam, n, n1, x, x1)
		p.n, p.x = both(api.TermApp, in, n, inX, x)
	}
}

// The same of great terms that share their parts, which are made, and gone through, once.
func TestGreatNodesLikeTerms(t *testing.T) {
	r := rand.New(rand.NewSource(14))
	great := 0
	for range 600 {
		p := pairing{Rand: r, book: NewBook(nil), x: chance(r, 1+r.Intn(3))}
		p.n = Read(&p.x)
		for term.Size(p.x, 4000) < 4000 && r.Intn(40) > 0 {
			p.share()
			if r.Intn(2) == 0 {
				p.turn(t)
			}
		}
		if p.n.isGreat() || p.n.size > mostApart {
			great++
		}
		hold(t, "at last", p.n, p.x)
	}
	if great < 300 {
		t.Errorf("%d great ones: too few to tell", great)
	}
}

// Terms that have far more parts than any memory are lifted, put in one another, and asked for their least variable,
// by the parts that they share.
func TestSharedOften(t *testing.T) {
	for _, turns := range []int{1, 3, 20, 40} {
		b := NewBook(nil)
		n := variable(3)
		for i := range turns {
			up := b.lifts.lifted(n, 1, 0)
			n = Branch(api.TermApp, Branch(api.TermLam, variable(i), up), b.lifts.lifted(n, i%3, i%2))
		}
		n = b.lifts.put(variable(0), Branch(api.TermApp, variable(1), variable(2))).below(n, 2)
		n = b.lifts.lifted(b.Lowered(b.lifts.lifted(n, 1, 0)), 2, 1)
		if n.least() > 3 || b.lifts.count > 1000*turns*turns {
			t.Errorf("%d turns: the least variable is %d, %d nodes", turns, n.least(), b.lifts.count)
		}
		x, y := b.lifts.lifted(n, 1, 2), b.lifts.lifted(b.lifts.lifted(n, 3, 2), 2, 4)
		b.lifts = lifts{} // what is made now is made anew
		x2, y2 := b.lifts.lifted(n, 1, 2), b.lifts.lifted(b.lifts.lifted(n, 2, 3), 3, 2)
		if !b.AreAlike(Pair{x, x2}) || !b.AreAlike(Pair{y, y2}) || b.AreAlike(Pair{x, y}) != (n.free <= 2) {
			t.Errorf("%d turns: lifts are not alike", turns)
		}
	}
}

// The same of terms that are lifted on one side alone.
func TestLiftedOnOneSide(t *testing.T) {
	b := NewBook(nil)
	tree := func(leaf *Node) *Node {
		for range 60 {
			leaf = Branch(api.TermApp, Branch(api.TermLam, leaf, b.lifts.lifted(leaf, 1, 0)), leaf)
		}
		return leaf
	}
	x, y := b.lifts.lifted(tree(variable(3)), 4, 2), tree(variable(7))
	if !b.AreAlike(Pair{x, y}) || !b.AreAlike(Pair{y, x}) || b.AreAlike(Pair{x, tree(variable(8))}) || b.AreAlike(Pair{y, tree(Read(&api.Term{Kind: api.TermConst}))}) {
		t.Error("it is told otherwise whether lifts are alike")
	}
	plain := func(leaf *Node) *Node {
		for range 60 {
			leaf = Branch(api.TermApp, leaf, leaf)
		}
		return leaf
	}
	x, y = b.lifts.lifted(plain(variable(3)), 4, 2), plain(variable(7))
	if !b.AreAlike(Pair{x, y}) || !b.AreAlike(Pair{y, x}) || x.least() != 7 {
		t.Error("lifts of what has no binders are not alike")
	}
}

// What is lifted again and again, and below its binders, has all lifts in one: no more rises than variables to tell apart.
func TestFewRises(t *testing.T) {
	leaf := api.Term{Kind: api.TermApp, Args: []api.Term{{Kind: api.TermVar}, {Kind: api.TermVar, N: 5}}}
	n, b := Read(&leaf), NewBook(nil)
	for i := range 10000 {
		n = b.lifts.lifted(n, 1, i%3)
	}
	if n.late == nil || len(n.late.rises) > 3 {
		t.Errorf("%d rises, want no more than 3", len(n.late.rises))
	}
	n = b.Fed(Read(&leaf))
	for range 10000 {
		n = b.Fed(n)
	}
	if n.fed == nil || n.fed.of.size != 3 || n.size != 3+2*10001 || n.free != 6+10001 {
		t.Errorf("fed 10001 times: size %d, free %d", n.size, n.free)
	}
	f := api.Term{Kind: api.TermConst}
	n = Read(&f)
	for i := range 10000 {
		n = Branch(api.TermApp, n, variable(10000-i))
	}
	for range 10000 { // each of its variables was the least one, and is gone
		n = b.Lowered(n.Args()[0])
	}
	if n.late != nil || n.size != 1 {
		t.Errorf("lowered 10000 times: %d parts", n.size)
	}
}
