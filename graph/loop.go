package graph

import (
	"slices"

	"touchstone/level"
)

// mostCompared is how many parts a term has that is held against another one, if they are not one node.
const mostCompared = 1 << 6

// loop finds out whether majors stand in one another without end, each like one further out: these would take room
// as long as there is fuel. Each is held against one that is further out, in the place of which a later one comes
// each time that twice as many came: so it is found once they come round, however many lie between.
type loop struct {
	mark int // the place of the one that others are held against
	span int // how many are held against it
}

// closes tells whether the last of tasks, whose major is to be opened, is like the one that it is held against.
func (l *loop) closes(tasks []*task) bool {
	last := len(tasks) - 1
	switch {
	case l.mark >= last: // it is closed by now
		*l = loop{last, 1}
	case tasks[l.mark].spine.isLike(tasks[last].spine):
		return true
	case last-l.mark >= l.span:
		*l = loop{last, 2 * l.span}
	}
	return false
}

// isLike tells whether s and o are the same term. It may fail to see that of great ones.
func (s *spine) isLike(o *spine) bool {
	return len(s.args) == len(o.args) && s.head.isLike(o.head) && slices.EqualFunc(s.args, o.args, arg.isLike)
}

func (a arg) isLike(o arg) bool {
	return a.node.isLike(o.node)
}

func (n *Node) isLike(o *Node) bool {
	if n == o {
		return true
	}
	return n.size <= mostCompared && n.IsKin(o) && n.levels.isLike(o.levels) && slices.EqualFunc(n.args, o.args, (*Node).isLike)
}

func (l Levels) isLike(o Levels) bool {
	if l.Len() != o.Len() {
		return false
	}
	for i := range l.list {
		if !level.Equal(l.At(i), o.At(i)) {
			return false
		}
	}
	return true
}
