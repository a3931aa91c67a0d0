package queue

import (
	"container/heap"
	"slices"
	"sort"
)

// line is what a queue asks of those that wait: what container/heap asks, to hold them in order,
// and who is first, since container/heap tells no more of it than that it is anything.
type line interface {
	heap.Interface
	first() entry
}

// takeFirst takes the one that is served next out of l.
func takeFirst(l line) entry {
	x := l.first()
	heap.Pop(l)
	return x
}

// entry is an item that waits. No two have one turn.
type entry struct {
	Item
	turn int // how many were pushed ahead of it
}

// isBefore tells whether x is served ahead of y.
func (x entry) isBefore(y entry) bool {
	if x.Weight != y.Weight {
		return x.Weight < y.Weight
	}
	return x.turn < y.turn
}

// row is a line, as container/heap lays it.
type row []entry

// Len, Less and Swap are sort.Interface's.
func (r row) Len() int { return len(r) }

func (r row) Less(i, k int) bool { return r[i].isBefore(r[k]) }

func (r row) Swap(i, k int) { r[i], r[k] = r[k], r[i] }

// Push and Pop are container/heap's: they add and take away the last one.
func (r *row) Push(x any) {
	if x, ok := x.(entry); ok {
		*r = append(*r, x)
	}
}

func (r *row) Pop() any {
	last := len(*r) - 1
	x := (*r)[last]
	*r = (*r)[:last]
	return x
}

func (r *row) first() entry { return (*r)[0] }

func (r row) has(x entry) bool { return slices.Contains(r, x) }

// asked are those of r of which tells is true. They are asked in the order in which they would be served:
// what an f answers that counts its calls does not hang on how the heap lies.
func asked(r row, tells func(entry) bool) (out row) {
	served := slices.Clone(r)
	sort.Sort(served)
	for _, x := range served {
		if tells(x) {
			out = append(out, x)
		}
	}
	return out
}

// question is what is asked of items.
type question struct{ f func(Item) bool }

// isTrue tells whether f tells true of x. An f that panics tells nothing.
func (q question) isTrue(x entry) (yes bool) {
	defer func() { _ = recover() }()
	return q.f(x.Item)
}
