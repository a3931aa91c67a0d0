package graph

import (
	"math"
	"sort"
)

// rises say what becomes of the numbers of free variables: of greater ones no less than of lesser ones. Of several
// that become one, the others are no free variable's. They rise by where they begin.
type rises []rise

// rise says that variables from one on are greater by by, which may be below 0, up to where the next rise begins.
type rise struct{ from, by int }

// ahead is how many of r begin at the number n or ahead of it, below so many binders.
func (r rises) ahead(n, binders int) int {
	return sort.Search(len(r), func(i int) bool { return r[i].from+binders > n })
}

// by is by how much variables are greater behind so many of r.
func (r rises) by(ahead int) int {
	if ahead == 0 {
		return 0
	}
	return r[ahead-1].by
}

// number is what becomes of the variable n below so many binders.
func (r rises) number(n, binders int) int {
	return n + r.by(r.ahead(n, binders))
}

// turns tells whether r may turn variables of n below so many binders.
func (r rises) turns(n *Node, binders int) bool {
	if n.free == 0 {
		return false
	}
	ahead := r.ahead(n.low, binders)
	if r.by(ahead) != 0 {
		return true
	}
	return ahead < len(r) && r[ahead].from+binders < n.free
}

// below is r as it is below so many binders.
func (r rises) below(binders int) rises {
	out := append(rises(nil), r...)
	for i := range out {
		out[i].from += binders
	}
	return out
}

// first is the least number that becomes n or greater, below so many binders.
func (r rises) first(n, binders int) int {
	at := n
	for _, x := range r {
		if at < x.from+binders {
			break
		}
		at = max(n-x.by, x.from+binders)
	}
	return at
}

// then is what becomes of variables by r, and of that by s.
func (r rises) then(s rises) (out rises) {
	cuts := make([]int, len(s))
	for i, x := range s {
		cuts[i] = r.first(x.from, 0)
	}
	i, j, last := 0, 0, 0
	for i < len(r) || j < len(s) {
		at := math.MaxInt
		if i < len(r) {
			at = r[i].from
		}
		if j < len(s) {
			at = min(at, cuts[j])
		}
		for i < len(r) && r[i].from == at {
			i++
		}
		for j < len(s) && cuts[j] == at {
			j++
		}
		if by := r.by(i) + s.by(j); by != last {
			out = append(out, rise{at, by})
			last = by
		}
	}
	return out
}

// of is what of r matters to n: the same of all that do the same to it.
func (r rises) of(n *Node) rises {
	for len(r) > 0 && r[len(r)-1].from >= n.free {
		r = r[:len(r)-1]
	}
	if ahead := r.ahead(n.low, 0); ahead > 0 {
		r = r[ahead-1:]
		r[0].from = 0
	}
	if len(r) > 0 && r[0].from == 0 && r[0].by == 0 {
		r = r[1:]
	}
	return r
}
