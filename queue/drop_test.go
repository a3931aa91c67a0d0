package queue_test

import (
	"errors"
	"fmt"
	"slices"
	"testing"

	"touchstone/api"
	"touchstone/queue"
)

// wantDrop: Drop of f tells so many, and so many are gone.
func wantDrop(t *testing.T, what string, q *queue.Queue, f func(queue.Item) bool, want int) {
	t.Helper()
	before := q.Len()
	if n := q.Drop(f); n != want || q.Len() != before-want {
		t.Fatalf("%s: Drop: %d, and %d of %d are left; want %d", what, n, q.Len(), before, want)
	}
}

func always(queue.Item) bool { return true }

func never(queue.Item) bool { return false }

// is: tells true of the items with one of these Numbers.
func is(numbers ...int) func(queue.Item) bool {
	return func(x queue.Item) bool { return slices.Contains(numbers, x.Number) }
}

// P12.1: Drop of none, of some, wherever they stand, and of all; what stays keeps its order.
func TestDrop(t *testing.T) {
	l := items(4, 9, 2, 4, 7, 2, 4, -3) // popped: 7, 2, 5, 0, 3, 6, 4, 1
	for _, x := range []struct {
		what string
		f    func(queue.Item) bool
	}{
		{"none", never}, {"no function", nil}, {"all", always}, {"of a Number that is not there", is(8, -1)},
		{"the first popped", is(7)}, {"a middle one", is(0)}, {"the last popped", is(1)}, {"the first and the last", is(7, 1)},
		{"the first of equal ones", is(0)}, {"the middle of equal ones", is(3)}, {"the last of equal ones", is(6)}, {"the ends of equal ones", is(0, 6)},
		{"all but the first", is(2, 5, 0, 3, 6, 4, 1)}, {"all but a middle one", is(7, 2, 5, 0, 6, 4, 1)}, {"all but the last", is(7, 2, 5, 0, 3, 6, 4)},
		{"by Weight", func(x queue.Item) bool { return x.Weight == 4 }}, {"by Weight, the others", func(x queue.Item) bool { return x.Weight != 4 }},
		{"by both", func(x queue.Item) bool { return x.Weight == 2 && x.Number == 5 }},
	} {
		left := slices.Clone(l)
		if x.f != nil {
			left = slices.DeleteFunc(left, x.f)
		}
		q := queueOf(t, l...)
		wantDrop(t, x.what, q, x.f, len(l)-len(left))
		if x.f != nil {
			wantDrop(t, x.what+", again", q, x.f, 0)
		}
		wantAll(t, x.what, q, served(left)...)
	}
}

// P12.1: Drop of every choice of a few.
func TestDropEveryChoice(t *testing.T) {
	l := items(3, 1, 2, 1, 3, 0, 2, 1, 5)
	for choice := range 1 << len(l) {
		f := func(x queue.Item) bool { return choice>>x.Number&1 == 1 }
		left := slices.DeleteFunc(slices.Clone(l), f)
		q := queueOf(t, l...)
		wantDrop(t, fmt.Sprint("choice ", choice), q, f, len(l)-len(left))
		wantAll(t, fmt.Sprint("choice ", choice), q, served(left)...)
	}
}

// P12.1: Drop of an empty queue, of a full one, and what is pushed behind it.
func TestDropEdges(t *testing.T) {
	q := queueOf(t)
	for _, f := range []func(queue.Item) bool{nil, never, always} {
		wantDrop(t, "empty", q, f, 0)
	}
	push(t, q, filling()...)
	wantDrop(t, "full, no function", q, nil, 0)
	wantDrop(t, "full, none", q, never, 0)
	wantFull(t, q)
	wantDrop(t, "full, all", q, always, api.MaxQueue)
	wantNone(t, "all gone", q)
	push(t, q, filling()...)
	wantAll(t, "full again", q, served(filling())...)
}

// P12.1: items that are alike are all gone, or all stay.
func TestDropAlike(t *testing.T) {
	q := queueOf(t, slices.Concat(numbered(1, 5, 5, 6, 5), numbered(2, 5, 5))...)
	wantDrop(t, "alike", q, func(x queue.Item) bool { return x == queue.Item{Weight: 1, Number: 5} }, 3)
	wantAll(t, "alike", q, slices.Concat(numbered(1, 6), numbered(2, 5, 5))...)
}

// P12.1: each item is asked once, as it is; alike ones, too. They are asked in the order in which they would be popped,
// however they came (R4), so that an f that counts takes the same ones.
func TestDropAsks(t *testing.T) {
	l := slices.Concat(items(4, 9, 2, 4, 7, 2, 4, -3), numbered(4, 3, 3))
	var seen []queue.Item
	look := func(x queue.Item) bool { seen = append(seen, x); return false }
	q := queueOf(t, l...)
	for range 3 {
		seen = nil
		wantDrop(t, "a look", q, look, 0)
		if !slices.Equal(seen, served(l)) {
			t.Fatalf("asked of %v; want %v", seen, served(l))
		}
	}
	calls := 0
	wantDrop(t, "each third", q, func(queue.Item) bool { calls++; return calls%3 == 1 }, 4)
	var left []queue.Item
	for i, x := range served(l) {
		if i%3 != 0 {
			left = append(left, x)
		}
	}
	wantAll(t, "each third", q, left...)
}

// R1: an f that panics tells true of nothing that it panics at; of the others it is asked all the same.
func TestDropPanics(t *testing.T) {
	l := items(3, 1, 2, 1, 3)
	for what, thing := range map[string]any{"text": "no", "error": errors.New("no"), "nil": nil, "number": 0} {
		q := queueOf(t, l...)
		wantDrop(t, what, q, func(x queue.Item) bool { panic(thing) }, 0)
		wantDrop(t, what+", at some", q, func(x queue.Item) bool {
			if x.Weight == 1 {
				panic(thing)
			}
			return x.Number != 4
		}, 2)
		wantAll(t, what, q, l[1], l[3], l[4])
	}
	q := queueOf(t, l...)
	wantDrop(t, "of the program", q, func(x queue.Item) bool { return l[:2][x.Number].Weight == 3 }, 1)
	wantAll(t, "of the program", q, l[1], l[3], l[2], l[4])
}

// R1: an f that comes to its own queue neither spoils it nor takes more than it tells.
func TestDropComesBack(t *testing.T) {
	for what, f := range map[string]func(*queue.Queue, queue.Item){
		"Push": func(q *queue.Queue, x queue.Item) { q.Push(x) },
		"Pop":  func(q *queue.Queue, _ queue.Item) { q.Pop() },
		"Drop": func(q *queue.Queue, x queue.Item) { q.Drop(is(x.Number + 1)) },
		"both": func(q *queue.Queue, x queue.Item) { q.Pop(); q.Push(x); q.Push(x) },
		"Copy": func(q *queue.Queue, _ queue.Item) { q.Copy().Drop(always) },
	} {
		for count := range api.MaxQueue + 1 {
			q := queueOf(t, filling()[:count]...)
			before, after := 0, 0 // what f itself makes of Len
			n := q.Drop(func(x queue.Item) bool {
				before = q.Len()
				f(q, x)
				after += q.Len() - before
				return x.Number%2 == 0
			})
			if n < 0 || n > count || q.Len() != count+after-n {
				t.Fatalf("%s, %d there: Drop: %d, %d left, %d by f", what, count, n, q.Len(), after)
			}
			var l []queue.Item
			for range q.Len() {
				x, _ := q.Pop()
				l = append(l, x)
			}
			if !slices.IsSortedFunc(l, func(a, b queue.Item) int { return a.Weight - b.Weight }) {
				t.Fatalf("%s, %d there: then %v", what, count, l)
			}
		}
	}
}
