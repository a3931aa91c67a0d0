package queue_test

import (
	"fmt"
	"slices"
	"testing"

	"touchstone/api"
	"touchstone/queue"
)

// P12.1: a copy has the same items in the same order, of equal ones too, and what is done to one is not seen in the other.
func TestCopy(t *testing.T) {
	l := items(4, 9, 2, 4, 7, 2, 4, -3)
	for what, do := range map[string]func(*queue.Queue, []queue.Item) []queue.Item{
		"nothing": func(_ *queue.Queue, l []queue.Item) []queue.Item { return l },
		"Push": func(q *queue.Queue, l []queue.Item) []queue.Item {
			return pushTo(q, l, queue.Item{Weight: 4, Number: 50})
		},
		"Push low": func(q *queue.Queue, l []queue.Item) []queue.Item {
			return pushTo(q, l, queue.Item{Weight: -9, Number: 51})
		},
		"Pop": func(q *queue.Queue, l []queue.Item) []queue.Item { q.Pop(); return served(l)[1:] },
		"Drop": func(q *queue.Queue, l []queue.Item) []queue.Item {
			q.Drop(is(3, 7))
			return slices.DeleteFunc(slices.Clone(l), is(3, 7))
		},
		"Drop all": func(q *queue.Queue, _ []queue.Item) []queue.Item { q.Drop(always); return nil },
	} {
		q := queueOf(t, l...)
		c := q.Copy()
		left := do(c, l)
		wantAll(t, what+", the first", q, served(l)...)
		wantAll(t, what+", the copy", c, served(left)...)

		q = queueOf(t, l...)
		c = q.Copy()
		left = do(q, l)
		wantAll(t, what+", the copy as it was", c, served(l)...)
		wantAll(t, what+", the first by itself", q, served(left)...)
	}
}

func pushTo(q *queue.Queue, l []queue.Item, x queue.Item) []queue.Item {
	q.Push(x)
	return append(slices.Clone(l), x)
}

// P12.1: what is pushed to both, in turns, comes behind the equal ones that both had, and only to the one.
func TestCopyGoesOn(t *testing.T) {
	q := queueOf(t, numbered(5, 3, 2, 1)...)
	wantNext(t, "ahead", q, numbered(5, 3)...)
	c := q.Copy()
	for i := range 40 {
		push(t, q, numbered(5, 100+i)...)
		push(t, c, numbered(5, 300-i, 200-i)...)
	}
	cc := c.Copy()
	wantNext(t, "the copy's copy", cc, numbered(5, 2, 1, 300, 200, 299, 199)...)
	if q.Len() != 42 || c.Len() != 82 || cc.Len() != 76 {
		t.Errorf("%d, %d and %d there", q.Len(), c.Len(), cc.Len())
	}
	wantNext(t, "the first", q, numbered(5, 2, 1)...)
	wantNext(t, "the copy", c, numbered(5, 2, 1)...)
	for i := range 40 {
		wantNext(t, "the first, then", q, numbered(5, 100+i)...)
		wantNext(t, "the copy, then", c, numbered(5, 300-i, 200-i)...)
	}
	wantNone(t, "the first", q)
	wantNone(t, "the copy", c)
}

// P12.1: copies of an empty queue and of a full one; each has room of its own.
func TestCopyEdges(t *testing.T) {
	q := queueOf(t)
	c := q.Copy()
	if c == nil || c == q {
		t.Fatalf("Copy of an empty queue is none, or itself")
	}
	wantNone(t, "empty", c)
	push(t, c, filling()...)
	wantNone(t, "empty as before", q)
	full := c.Copy()
	wantFull(t, full)
	wantDrop(t, "full", c, always, api.MaxQueue)
	wantFull(t, full)
	wantAll(t, "full", full, served(filling())...)
	wantNone(t, "full and dropped", c)
}

// P12.1: where Push goes to spare room, two queues still share none.
func TestCopySharesNothing(t *testing.T) {
	for count := range 70 {
		l := numbered(0, make([]int, count)...)
		q := queueOf(t, append(l, numbered(1, 1, 2)...)...)
		wantDrop(t, "spare room", q, is(1, 2), 2)
		c := q.Copy()
		push(t, q, numbered(2, 7)...)
		push(t, c, numbered(2, 8)...)
		wantAll(t, fmt.Sprint("the first, of ", count), q, append(slices.Clone(l), numbered(2, 7)...)...)
		wantAll(t, fmt.Sprint("the copy, of ", count), c, append(slices.Clone(l), numbered(2, 8)...)...)
	}
}

// P12.1: two new queues have nothing to do with each other.
func TestNewIsNew(t *testing.T) {
	a, b := queue.New(), queue.New()
	push(t, a, items(1, 2)...)
	wantNone(t, "the other", b)
	wantAll(t, "the one", a, items(1, 2)...)
}

// P12.1: of a nil Queue: ErrArg, 0, nil, and f is not asked.
func TestNil(t *testing.T) {
	var q *queue.Queue
	for _, x := range []queue.Item{{}, {Weight: 1, Number: 2}} {
		if e := q.Push(x); e != api.ErrArg {
			t.Errorf("Push(%v): error %d", x, e)
		}
		if x, e := q.Pop(); x != (queue.Item{}) || e != api.ErrArg {
			t.Errorf("Pop: %v, error %d", x, e)
		}
	}
	for what, f := range map[string]func(queue.Item) bool{"nil": nil, "never": never, "always": always, "panics": func(queue.Item) bool { panic("asked") }} {
		if n := q.Drop(f); n != 0 {
			t.Errorf("Drop of %s: %d", what, n)
		}
	}
	if n := q.Len(); n != 0 {
		t.Errorf("Len: %d", n)
	}
	if c := q.Copy(); c != nil {
		t.Errorf("Copy: %v", c)
	}
}

// P12.1: a zero Queue is like New, whichever call comes first.
func TestZero(t *testing.T) {
	for what, first := range map[string]func(*queue.Queue) *queue.Queue{
		"Push": func(q *queue.Queue) *queue.Queue {
			push(t, q, items(1)...)
			wantNext(t, "Push", q, items(1)...)
			return q
		},
		"Pop": func(q *queue.Queue) *queue.Queue { wantNone(t, "Pop", q); return q },
		"Drop": func(q *queue.Queue) *queue.Queue {
			wantDrop(t, "Drop", q, always, 0)
			wantDrop(t, "Drop", q, nil, 0)
			return q
		},
		"Len":  func(q *queue.Queue) *queue.Queue { wantLen(t, q, 0); return q },
		"Copy": func(q *queue.Queue) *queue.Queue { wantLen(t, q.Copy(), 0); return q.Copy() },
	} {
		var zero queue.Queue
		for _, q := range []*queue.Queue{first(&zero), first(&queue.Queue{}), first(new(queue.Queue)), first(queue.New())} {
			push(t, q, filling()...)
			wantFull(t, q)
			wantAll(t, what, q.Copy(), served(filling())...)
			wantDrop(t, what, q, is(0, 1, 2), 3)
			wantAll(t, what, q, served(filling()[3:])...)
		}
	}
}

func wantLen(t *testing.T, q *queue.Queue, want int) {
	t.Helper()
	if n := q.Len(); n != want {
		t.Fatalf("Len: %d; want %d", n, want)
	}
}
