package env

// ground is the memory of lists of one kind, and new memory that lies as it does.
type ground[T any] struct {
	spots  map[*T]spot // where each thing lies
	plots  []plot[T]
	pieces []piece[T] // all together they have each thing once
}

// plot is a stretch of memory in which lists lie.
type plot[T any] struct {
	length int
	fresh  []T  // its new memory, once that is asked for
	outer  spot // where it begins in another plot, if it is a part of one
	inner  bool // it is
}

// spot is a place in a plot.
type spot struct{ plot, place int }

// piece is things of a list, one behind the other, and where the first one lies.
type piece[T any] struct {
	things []T
	start  spot
}

const none = -1 // in the place of a plot

// enter brings list to the plots.
func (g *ground[T]) enter(list []T) {
	last := none // the plot at whose end the list goes on
	for at := 0; at < len(list); {
		s, known := g.spots[&list[at]]
		if !known {
			last = g.orOpen(last)
			at += g.extend(last, list[at:])
			continue
		}
		s = g.outermost(s)
		at += g.plots[s.plot].length - s.place
		last = g.join(last, s.plot)
	}
}

// orOpen is a plot, a new one if there is none.
func (g *ground[T]) orOpen(number int) int {
	if number != none {
		return number
	}
	g.plots = append(g.plots, plot[T]{})
	return len(g.plots) - 1
}

// extend lays things at the end of a plot, up to the first one that lies in a plot already, and tells how many.
func (g *ground[T]) extend(number int, things []T) int {
	if g.spots == nil {
		g.spots = map[*T]spot{}
	}
	p := &g.plots[number]
	start := spot{number, p.length}
	for i := range things {
		if _, known := g.spots[&things[i]]; known {
			things = things[:i]
			break
		}
		g.spots[&things[i]] = spot{number, p.length}
		p.length++
	}
	g.pieces = append(g.pieces, piece[T]{things, start})
	return len(things)
}

// join is the plot of which both are a part, where a list goes on from the end of first to second. That is at the
// beginning of second: what lies ahead of it is in another plot.
func (g *ground[T]) join(first, second int) int {
	if first == none {
		return second
	}
	a, b := &g.plots[first], &g.plots[second]
	b.outer, b.inner = spot{first, a.length}, true
	a.length += b.length
	return first
}

// outermost is where s lies in a plot that is no part of another one. Each plot on the way gets nearer to that:
// else ways that are gone again and again would grow long.
func (g *ground[T]) outermost(s spot) spot {
	for g.plots[s.plot].inner {
		p := &g.plots[s.plot]
		if around := &g.plots[p.outer.plot]; around.inner {
			p.outer = around.outward(p.outer)
		}
		s = p.outward(s)
	}
	return s
}

// outward is where a spot of p lies in the plot of which p is a part.
func (p *plot[T]) outward(s spot) spot {
	return spot{p.outer.plot, p.outer.place + s.place}
}

// survey enters what stands in all things, those too that come by it.
func (g *ground[T]) survey(each func(*T)) {
	for i := 0; i < len(g.pieces); i++ {
		things := g.pieces[i].things
		for j := range things {
			each(&things[j])
		}
	}
}

// moved is the list of new memory that lies as list does, which was entered.
func (g *ground[T]) moved(list []T) []T {
	if len(list) == 0 {
		return nil
	}
	return g.at(g.spots[&list[0]], len(list))
}

// at is so much new memory from a spot on.
func (g *ground[T]) at(s spot, length int) []T {
	s = g.outermost(s)
	p := &g.plots[s.plot]
	if p.fresh == nil {
		p.fresh = make([]T, p.length)
	}
	return p.fresh[s.place : s.place+length : s.place+length]
}

// move brings what becomes of each thing to its new memory.
func (g *ground[T]) move(each func(*T)) {
	for _, p := range g.pieces {
		to := g.at(p.start, len(p.things))
		copy(to, p.things)
		for i := range to {
			each(&to[i])
		}
	}
}
