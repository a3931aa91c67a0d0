package graph

import (
	"math/rand"
	"testing"

	"touchstone/api"
	"touchstone/term"
)

// parts: some parts of p's terms that stand at one place, and themselves.
func (p *pairing) partsWith(o *pairing) (list [][2]pairing) {
	a, b := *p, *o
	for {
		list = append(list, [2]pairing{a, b})
		if a.n.count() == 0 || a.n.count() != b.n.count() {
			return list
		}
		at := p.Intn(a.n.count())
		a.n, a.x = a.n.Args()[at], a.x.Args[at]
		b.n, b.x = b.n.Args()[at], b.x.Args[at]
	}
}

// grown: two great terms, made alike, or much alike, of parts of which some are one node.
func grown(r *rand.Rand, b *Book) (p, o pairing) {
	seed := r.Int63()
	p = pairing{Rand: rand.New(rand.NewSource(seed)), book: b, x: chance(r, 1+r.Intn(3))}
	p.n = Read(&p.x)
	o = pairing{Rand: rand.New(rand.NewSource(seed)), book: b, x: p.x, n: Read(&p.x)}
	if r.Intn(8) == 0 {
		o.x = chance(r, 2)
		o.n = Read(&o.x)
	}
	for term.Size(p.x, 1500) < 1500 && r.Intn(30) > 0 {
		p.share()
		o.share()
		switch r.Intn(12) {
		case 0: // from now on what stands here is one node
			if term.Equal(p.x, o.x) {
				o.n = p.n
			}
		case 1: // lifted in one turn, and in two
			p.n, p.x = b.lifts.lifted(p.n, 3, 2), term.Lift(p.x, 3, 2)
			o.n, o.x = b.lifts.lifted(b.lifts.lifted(o.n, 2, 2), 1, 3), term.Lift(o.x, 3, 2)
		case 2: // one is read anew
			o.n = Read(&o.x)
		case 3: // one is another one at the last
			v := variable(r.Intn(3))
			o.n, o.x = Branch(api.TermApp, o.n, v), api.Term{Kind: api.TermApp, Args: []api.Term{o.x, {N: v.number}}}
			p.n, p.x = Branch(api.TermApp, p.n, variable(1)), api.Term{Kind: api.TermApp, Args: []api.Term{p.x, {N: 1}}}
		}
	}
	return p, o
}

// P14.1: of great terms, that share their parts, it is told whether they are alike, whatever was asked before.
func TestLikenessLikeTerms(t *testing.T) {
	r := rand.New(rand.NewSource(54))
	told := map[bool]int{}
	for range 400 {
		b := NewBook(nil)
		p, o := grown(r, b)
		q, _ := grown(r, b)
		var asked [][2]pairing
		asked = append(asked, p.partsWith(&o)...)
		asked = append(asked, p.partsWith(&o)...)
		asked = append(asked, p.partsWith(&q)...)
		asked = append(asked, o.partsWith(&q)...)
		asked = append(asked, p.partsWith(&p)...)
		for range 2 * len(asked) {
			x := asked[r.Intn(len(asked))]
			want := term.Equal(x[0].x, x[1].x)
			if got := b.AreAlike(Pair{x[0].n, x[1].n}); got != want {
				t.Fatalf("terms of %d and %d parts: %v, want %v", x[0].n.size, x[1].n.size, got, want)
			}
			if got := b.AreAlike(Pair{x[1].n, x[0].n}); got != want {
				t.Fatalf("terms of %d and %d parts, the other way round: %v, want %v", x[1].n.size, x[0].n.size, got, want)
			}
			if x[0].n.size > mostApart {
				told[want]++
			}
			if r.Intn(20) == 0 {
				b.likeness.classes.forget()
			}
		}
	}
	if told[true] < 3000 || told[false] < 500 {
		t.Errorf("what was grown tells little: %v", told)
	}
}

// P14.1: what is found of terms is kept by numbers, no more of these than of great terms that are gone through.
func TestFewClasses(t *testing.T) {
	b := NewBook(nil)
	rows := func(count int, end *Node) (all []*Node) {
		for range count {
			n := end
			for range 40 {
				n = Branch(api.TermApp, n, n)
			}
			all = append(all, n)
		}
		return all
	}
	c := Read(&api.Term{Kind: api.TermConst, Name: "c"})
	a, o := rows(50, c), rows(1, c)
	for range 3 {
		for _, n := range a {
			if !b.AreAlike(Pair{n, o[0]}) || !b.AreAlike(Pair{o[0], n}) || !b.AreAlike(Pair{a[0], n}) {
				t.Fatal("rows are not alike")
			}
		}
	}
	if got := len(b.likeness.classes.under); got > 51*40 {
		t.Errorf("%d classes", got)
	}
	b.likeness.classes.under = append(b.likeness.classes.under, make([]int, mostClasses)...)
	if !b.AreAlike(Pair{a[0], a[1]}) || len(b.likeness.classes.under) > 2*40 {
		t.Errorf("%d classes are kept", len(b.likeness.classes.under))
	}
}
