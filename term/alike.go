package term

import "touchstone/api"

// mostUnnoted is how many parts of Levels are gone through without a note of where they lie.
// Notes cost more than what is gone through, but Levels that are handed in may have no end,
// or lie so that little memory holds more parts than can be gone through.
const mostUnnoted = 1 << 18

// list is a list of Levels, by where it lies.
type list struct {
	first  *api.Level
	length int
}

// listOf is where levels, which are not empty, lie.
func listOf(levels []api.Level) list {
	return list{&levels[0], len(levels)}
}

// likeness holds Levels against each other: great ones too, of which level.Equal promises nothing.
type likeness struct {
	open    []twoLists    // still to be held against each other: Levels may be deeper than a stack of calls
	met     int           // parts that were
	classes map[list]list // of lists that are alike, if all that is still open is: each names another one of its class
}

// twoLists are Levels that are to be alike.
type twoLists struct{ a, b []api.Level }

// holds tells whether all fields of a and b, and of all below, are alike.
func (k *likeness) holds(a, b []api.Level) bool {
	k.open = append(k.open[:0], twoLists{a, b})
	for len(k.open) > 0 {
		last := len(k.open) - 1
		both := k.open[last]
		k.open = k.open[:last]
		if !k.opens(both) {
			return false
		}
	}
	return true
}

// opens tells whether all fields of both are alike, and leaves open what stands below.
func (k *likeness) opens(both twoLists) bool {
	if len(both.a) != len(both.b) {
		return false
	}
	if len(both.a) == 0 || !k.isNew(both) {
		return true
	}
	for i := range both.a {
		a, b := &both.a[i], &both.b[i]
		if a.Kind != b.Kind || a.N != b.N || len(a.Args) != len(b.Args) {
			return false
		}
		if len(a.Args) > 0 {
			k.open = append(k.open, twoLists{a.Args, b.Args})
		}
	}
	return true
}

// isNew tells whether it must still be asked if both are alike.
func (k *likeness) isNew(both twoLists) bool {
	a, b := listOf(both.a), listOf(both.b)
	if a == b {
		return false
	}
	k.met += len(both.a)
	return k.met <= mostUnnoted || k.joins(a, b)
}

// joins makes one class of those of a and b, and tells whether they were two.
func (k *likeness) joins(a, b list) bool {
	a, b = k.class(a), k.class(b)
	if a == b {
		return false
	}
	if k.classes == nil {
		k.classes = map[list]list{}
	}
	k.classes[a] = b
	return true
}

// class is the list that stands for l's class. All on the way to it name it from now on, so that no way grows long.
func (k *likeness) class(l list) list {
	top := l
	for next, ok := k.classes[top]; ok; next, ok = k.classes[top] {
		top = next
	}
	for l != top {
		next := k.classes[l]
		k.classes[l] = top
		l = next
	}
	return top
}
