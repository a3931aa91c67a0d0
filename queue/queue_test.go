package queue_test

import (
	"fmt"
	"math"
	"slices"
	"testing"

	"touchstone/api"
	"touchstone/queue"
)

// items: one of each Weight, numbered as they come.
func items(weights ...int) []queue.Item {
	var out []queue.Item
	for i, w := range weights {
		out = append(out, queue.Item{Weight: w, Number: i})
	}
	return out
}

// numbered: items of one Weight with these Numbers.
func numbered(weight int, numbers ...int) []queue.Item {
	var out []queue.Item
	for _, n := range numbers {
		out = append(out, queue.Item{Weight: weight, Number: n})
	}
	return out
}

// push: Push of each of l is fine, and each is one more.
func push(t *testing.T, q *queue.Queue, l ...queue.Item) {
	t.Helper()
	for _, x := range l {
		before := q.Len()
		if e := q.Push(x); e != api.OK || q.Len() != before+1 {
			t.Fatalf("Push(%v) with %d there: error %d, then %d there", x, before, e, q.Len())
		}
	}
}

// queueOf: a new Queue with these.
func queueOf(t *testing.T, l ...queue.Item) *queue.Queue {
	t.Helper()
	q := queue.New()
	if q == nil || q.Len() != 0 {
		t.Fatalf("New is not an empty queue")
	}
	push(t, q, l...)
	return q
}

// wantNext: Pop tells these, and each is one less.
func wantNext(t *testing.T, what string, q *queue.Queue, want ...queue.Item) {
	t.Helper()
	for i, w := range want {
		before := q.Len()
		if x, e := q.Pop(); x != w || e != api.OK {
			t.Fatalf("%s: Pop number %d: %v, error %d; want %v", what, i, x, e, w)
		}
		if q.Len() != before-1 {
			t.Fatalf("%s: behind Pop number %d: %d there, %d before", what, i, q.Len(), before)
		}
	}
}

// wantNone: there is nothing to pop, as often as one asks.
func wantNone(t *testing.T, what string, q *queue.Queue) {
	t.Helper()
	for range 3 {
		if x, e := q.Pop(); x != (queue.Item{}) || e != api.ErrNone || q.Len() != 0 {
			t.Fatalf("%s: Pop of none: %v, error %d, then %d there", what, x, e, q.Len())
		}
	}
}

// wantAll: Pop tells these, and then that there is none.
func wantAll(t *testing.T, what string, q *queue.Queue, want ...queue.Item) {
	t.Helper()
	if q.Len() != len(want) {
		t.Fatalf("%s: %d there; want %d", what, q.Len(), len(want))
	}
	wantNext(t, what, q, want...)
	wantNone(t, what, q)
}

// served: l in the order in which it is popped, by what the chapter says alone.
func served(l []queue.Item) []queue.Item {
	left, out := slices.Clone(l), []queue.Item{}
	for len(left) > 0 {
		least := 0
		for i := range left {
			if left[i].Weight < left[least].Weight {
				least = i
			}
		}
		out = append(out, left[least])
		left = slices.Delete(left, least, least+1)
	}
	return out
}

// The chapter's example.
func TestExample(t *testing.T) {
	q := queueOf(t, queue.Item{Weight: 3}, queue.Item{Weight: 1}, queue.Item{Weight: 2})
	wantAll(t, "3, 1, 2", q, queue.Item{Weight: 1}, queue.Item{Weight: 2}, queue.Item{Weight: 3})
}

// P12.1: Pop of a queue to which nothing was pushed, and of one that is empty again.
func TestEmpty(t *testing.T) {
	q := queueOf(t)
	wantNone(t, "new", q)
	for _, x := range []queue.Item{{Weight: 7, Number: 9}, {Weight: -7, Number: -9}, {}} {
		push(t, q, x)
		wantAll(t, fmt.Sprint("of ", x), q, x)
	}
}

// P12.1: what is popped, by Weight and then as it was pushed, whatever its Number is.
func TestPopOrder(t *testing.T) {
	const least, most = math.MinInt, math.MaxInt
	for what, x := range map[string]struct{ of, want []queue.Item }{
		"one":                           {items(5), items(5)},
		"rising":                        {items(1, 2, 3, 4), items(1, 2, 3, 4)},
		"falling":                       {[]queue.Item{{9, 1}, {7, 2}, {5, 3}, {3, 4}}, []queue.Item{{3, 4}, {5, 3}, {7, 2}, {9, 1}}},
		"mixed":                         {[]queue.Item{{4, 1}, {9, 2}, {2, 3}, {7, 4}, {3, 5}}, []queue.Item{{2, 3}, {3, 5}, {4, 1}, {7, 4}, {9, 2}}},
		"mixed, twice":                  {[]queue.Item{{2, 1}, {1, 2}, {2, 3}, {1, 4}, {0, 5}}, []queue.Item{{0, 5}, {1, 2}, {1, 4}, {2, 1}, {2, 3}}},
		"below 0":                       {[]queue.Item{{-1, 1}, {0, 2}, {-3, 3}, {1, 4}, {-2, 5}}, []queue.Item{{-3, 3}, {-2, 5}, {-1, 1}, {0, 2}, {1, 4}}},
		"the ends":                      {[]queue.Item{{most, 1}, {0, 2}, {least, 3}, {-1, 4}, {1, 5}, {most - 1, 6}, {least + 1, 7}}, []queue.Item{{least, 3}, {least + 1, 7}, {-1, 4}, {0, 2}, {1, 5}, {most - 1, 6}, {most, 1}}},
		"the ends twice":                {[]queue.Item{{most, 1}, {least, 2}, {most, 3}, {least, 4}}, []queue.Item{{least, 2}, {least, 4}, {most, 1}, {most, 3}}},
		"equal":                         {numbered(6, 1, 2, 3, 4, 5, 6, 7), numbered(6, 1, 2, 3, 4, 5, 6, 7)},
		"equal, by falling Numbers":     {numbered(6, 7, 6, 5, 4, 3, 2, 1), numbered(6, 7, 6, 5, 4, 3, 2, 1)},
		"equal, by Numbers at the ends": {numbered(-6, most, 0, least, -1, most, 1), numbered(-6, most, 0, least, -1, most, 1)},
		"equal, and equal Numbers, too": {append(numbered(6, 4, 4, 3, 4), numbered(5, 4, 4)...), append(numbered(5, 4, 4), numbered(6, 4, 4, 3, 4)...)},
	} {
		wantAll(t, what, queueOf(t, x.of...), x.want...)
	}
}

// P12.1: every order in which few Weights, some of them equal, can come.
func TestEveryOrder(t *testing.T) {
	const count = 6
	for code := range count * count * count * count * count * count {
		weights := make([]int, count)
		for i, c := 0, code; i < count; i, c = i+1, c/count {
			weights[i] = c % count
		}
		l := items(weights...)
		wantAll(t, fmt.Sprint(weights), queueOf(t, l...), served(l)...)
	}
}

// P12.1: equal ones stay in their order while others are pushed, popped and dropped in between.
func TestEqualInBetween(t *testing.T) {
	q := queueOf(t, numbered(5, 9, 8)...)
	push(t, q, numbered(1, 100, 101)...)
	push(t, q, numbered(5, 7)...)
	wantNext(t, "others popped", q, numbered(1, 100, 101)...)
	push(t, q, numbered(5, 6)...)
	push(t, q, numbered(9, 200, 201, 202)...)
	push(t, q, numbered(0, 300, 301, 302)...)
	push(t, q, numbered(5, 5)...)
	wantDrop(t, "others dropped", q, func(x queue.Item) bool { return x.Number >= 200 }, 6)
	push(t, q, numbered(5, 4)...)
	wantNext(t, "the first of them popped", q, numbered(5, 9, 8)...)
	push(t, q, numbered(5, 9, 8)...)
	wantDrop(t, "some of them dropped", q, func(x queue.Item) bool { return x.Number == 6 || x.Number == 9 }, 2)
	push(t, q, numbered(5, 6)...)
	push(t, q, numbered(4, 1)...)
	wantAll(t, "in the end", q, append(numbered(4, 1), numbered(5, 7, 5, 4, 8, 6)...)...)
}

// P12.1: one that is pushed again comes behind those that were there, also where the queue was empty in between.
func TestPushedAgain(t *testing.T) {
	q := queueOf(t, numbered(2, 1, 2, 3)...)
	for i := range 3000 {
		x, e := q.Pop()
		if want := i%3 + 1; x != (queue.Item{Weight: 2, Number: want}) || e != api.OK {
			t.Fatalf("round %d: %v, error %d; want Number %d", i, x, e, want)
		}
		push(t, q, x)
	}
	wantAll(t, "all of them", q, numbered(2, 1, 2, 3)...)
	push(t, q, numbered(2, 3, 1)...)
	wantAll(t, "empty in between", q, numbered(2, 3, 1)...)
}

// wantFull: one more is ErrFull, and q has as many as before.
func wantFull(t *testing.T, q *queue.Queue) {
	t.Helper()
	for _, x := range []queue.Item{{}, {Weight: math.MinInt, Number: -1}, {Weight: math.MaxInt, Number: -2}, {Weight: 3, Number: -3}} {
		if e := q.Push(x); e != api.ErrFull || q.Len() != api.MaxQueue {
			t.Fatalf("Push(%v) to a full queue: error %d, then %d there", x, e, q.Len())
		}
	}
}

// filling: MaxQueue items, some of them equal.
func filling() []queue.Item {
	var weights []int
	for i := range api.MaxQueue {
		weights = append(weights, (i*37)%100-50)
	}
	return items(weights...)
}

// P12.1: MaxQueue items have room, one more is ErrFull and changes nothing.
func TestFull(t *testing.T) {
	q := queueOf(t, filling()...)
	wantFull(t, q)
	wantAll(t, "full", q, served(filling())...)
	push(t, q, filling()...)
	wantFull(t, q)
	wantAll(t, "full again", q, served(filling())...)
}

// P12.1: behind a Pop there is room for one, which comes behind its equals.
func TestRoomBehindPop(t *testing.T) {
	q := queueOf(t, filling()...)
	left := served(filling())
	for i := range 3 * api.MaxQueue {
		wantFull(t, q)
		wantNext(t, fmt.Sprint("round ", i), q, left[0])
		more := queue.Item{Weight: (i*13)%120 - 60, Number: 1000 + i}
		push(t, q, more)
		left = served(append(left[1:], more))
	}
	wantFull(t, q)
	wantAll(t, "in the end", q, left...)
}

// P12.1: behind a Drop there is room for as many as went.
func TestRoomBehindDrop(t *testing.T) {
	l := filling()
	q := queueOf(t, l...)
	odd := func(x queue.Item) bool { return x.Number%2 == 1 }
	wantDrop(t, "full", q, odd, api.MaxQueue/2)
	more := numbered(-20, slices.Repeat([]int{500, 400}, api.MaxQueue/4)...)
	push(t, q, more...)
	wantFull(t, q)
	wantAll(t, "in the end", q, served(append(slices.DeleteFunc(l, odd), more...))...)
}

// What follows: what is popped rises by Weight, as long as nothing is pushed, also where some are dropped.
func TestRises(t *testing.T) {
	q := queueOf(t, filling()...)
	last := math.MinInt
	for i := range api.MaxQueue {
		if i%50 == 49 {
			q.Drop(func(x queue.Item) bool { return x.Number%17 == i/50 })
		}
		if q.Len() == 0 {
			break
		}
		x, e := q.Pop()
		if e != api.OK || x.Weight < last {
			t.Fatalf("Pop number %d: %v, error %d, behind %d", i, x, e, last)
		}
		last = x.Weight
	}
}
