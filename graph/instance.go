package graph

const (
	// mostInstances is how many instances of a definition are kept.
	mostInstances = 8
	// mostInstance is how many parts one has that is.
	mostInstance = 1 << 10
)

// instance is a definition's value with Levels put in. It is kept, so that what comes round is one node each time:
// see lap.
type instance struct {
	levels Levels
	value  *Node
}

// valueAt is the definition's value with the Levels of n put in.
func (f *fact) valueAt(n *Node) *Node {
	levels := n.levels()
	if levels.Len() == 0 || !f.value.leveled {
		return f.value
	}
	if n.unfit || f.value.size > mostInstance {
		return relevelBy(levels.all()).with(f.value)
	}
	for _, i := range f.at {
		if i.levels.isLike(levels) {
			return i.value
		}
	}
	all := levels.all()
	return f.keep(instance{Levels{list: all}, relevelBy(all).with(f.value)})
}

// keep keeps i, in the place of an older one, if there are many.
func (f *fact) keep(i instance) *Node {
	if len(f.at) < mostInstances {
		f.at = append(f.at, i)
		return i.value
	}
	f.at[f.turn] = i
	f.turn = (f.turn + 1) % mostInstances
	return i.value
}
