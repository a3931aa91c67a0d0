package graph

import (
	"slices"

	"touchstone/level"
)

// Loop finds out whether terms stand in one another without end, each one that has its turn in one further out: these
// would take room as long as there is fuel. Each is held against one that is further out, in the place of which a later
// one comes each time that twice as many came: so it is found once they come round, however many lie between.
type Loop struct {
	mark int // the place of the one that others are held against
	span int // how many are held against it
}

// Closes tells whether the last one is like the one that it is held against, if isLike says this of the one at a place.
func (l *Loop) Closes(last int, isLike func(mark int) bool) bool {
	switch {
	case l.mark >= last: // it is closed by now
		*l = Loop{last, 1}
	case isLike(l.mark):
		return true
	case last-l.mark >= l.span:
		*l = Loop{last, 2 * l.span}
	}
	return false
}

// comesRound tells whether the last task, whose major is to be opened, is like one further out.
func (x *machine) comesRound() bool {
	last := len(x.tasks) - 1
	return x.loop.Closes(last, func(mark int) bool {
		return x.tasks[mark].spine.isLike(x.tasks[last].spine)
	})
}

// leastLap is behind how many steps of a term what they make is held against each other.
const leastLap = 1 << 6

// lap finds out whether steps of a term come round: these would go on as long as there is fuel. What each makes is held
// against what one of them made, in the place of which a later one comes each time that twice as many were taken.
type lap struct {
	mark *spine
	next int // behind how many steps another one comes
}

// closes tells whether s is like what it is held against, behind so many steps.
func (l *lap) closes(s *spine, took int) bool {
	if l.mark != nil && s.isLike(l.mark) {
		return true
	}
	if took >= max(l.next, leastLap) {
		*l = lap{&spine{s.head, slices.Clone(s.args)}, 2 * took}
	}
	return false
}

// mostCompared is how many parts are held against each other, if they are not one node.
const mostCompared = 1 << 6

// comparing holds two terms against each other, as long as it may.
type comparing struct{ left int }

// isLike tells whether s and o are the same term. It may fail to see that of great ones.
func (s *spine) isLike(o *spine) bool {
	if len(s.args) != len(o.args) {
		return false
	}
	c := comparing{mostCompared}
	if !c.areLike(s.head, o.head) {
		return false
	}
	for i := range s.args {
		if !c.areLike(s.at(i), o.at(i)) {
			return false
		}
	}
	return true
}

// IsLike tells whether n and o are the same term. It may fail to see that of great ones.
func (n *Node) IsLike(o *Node) bool {
	c := comparing{mostCompared}
	return c.areLike(n, o)
}

func (c *comparing) areLike(n, o *Node) bool {
	if n == o {
		return true
	}
	c.left--
	return c.left >= 0 && n.isKin(o) && n.levels().isLike(o.levels()) && slices.EqualFunc(n.glance(), o.glance(), c.areLike)
}

func (l Levels) isLike(o Levels) bool {
	if l.Len() != o.Len() {
		return false
	}
	for i := range l.list {
		if !level.Equal(l.at(i), o.at(i)) {
			return false
		}
	}
	return true
}
