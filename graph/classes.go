package graph

// mostClasses is how many classes are kept, unless one question alone takes as many: steps make new terms without end.
const mostClasses = 1 << 22

// classes are of nodes that are known to be alike. A class is a number, so that nothing is kept by it; one that was
// forgotten is none.
type classes struct {
	gone  int   // how many were forgotten: the numbers of these are up to there
	under []int // of each other one, from the next number on: itself, or a class that it is part of
}

// of is n's class, a new one, if it has none.
func (c *classes) of(n *Node) int {
	if n.class <= c.gone {
		n.class = c.gone + len(c.under) + 1
		c.under = append(c.under, n.class)
	}
	n.class = c.whole(n.class)
	return n.class
}

// whole is the greatest class that class is part of. Ways that were gone become shorter.
func (c *classes) whole(class int) int {
	at := class - c.gone - 1
	for c.under[at] != at+c.gone+1 {
		next := c.under[at] - c.gone - 1
		c.under[at] = c.under[next]
		at = next
	}
	return at + c.gone + 1
}

// unite notes that p's terms are alike.
func (c *classes) unite(p Pair) {
	a, b := c.of(p.A), c.of(p.B)
	c.under[a-c.gone-1] = b
}

// part notes that p's terms are not alike.
func (c *classes) part(p Pair) {
	p.A.unlike = c.of(p.B)
}

// areOne tells whether p's terms are known to be alike.
func (c *classes) areOne(p Pair) bool {
	return p.A.class > c.gone && p.B.class > c.gone && c.of(p.A) == c.of(p.B)
}

// areTwo tells whether p's terms are known not to be alike.
func (c *classes) areTwo(p Pair) bool {
	return p.A.unlike > c.gone && p.B.class > c.gone && c.whole(p.A.unlike) == c.of(p.B)
}

// forget drops all classes.
func (c *classes) forget() {
	c.gone += len(c.under)
	c.under = nil
}
