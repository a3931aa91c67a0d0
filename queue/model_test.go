package queue_test

import (
	"fmt"
	"math"
	"math/rand"
	"slices"
	"testing"

	"touchstone/api"
	"touchstone/queue"
)

// model: a queue as the chapter says: a plain list of items, as they were pushed.
type model []queue.Item

func (m *model) push(x queue.Item) api.Errno {
	if len(*m) == api.MaxQueue {
		return api.ErrFull
	}
	*m = append(*m, x)
	return api.OK
}

func (m *model) pop() (queue.Item, api.Errno) {
	if len(*m) == 0 {
		return queue.Item{}, api.ErrNone
	}
	least := 0
	for i, x := range *m {
		if x.Weight < (*m)[least].Weight {
			least = i
		}
	}
	x := (*m)[least]
	*m = slices.Delete(*m, least, least+1)
	return x, api.OK
}

func (m *model) drop(f func(queue.Item) bool) int {
	before := len(*m)
	if f != nil {
		*m = slices.DeleteFunc(*m, f)
	}
	return before - len(*m)
}

// pair: a queue, and what it must be.
type pair struct {
	q *queue.Queue
	m model
}

// chance: what is done to pairs, and how often it came to each end.
type chance struct {
	*testing.T
	*rand.Rand
	spread int // how many Weights and Numbers there are
	ends   map[string]int
}

// item: an item that is drawn, now and then one at the ends of int.
func (c *chance) item() queue.Item {
	x := queue.Item{Weight: c.Intn(c.spread) - c.spread/2, Number: c.Intn(c.spread)}
	switch c.Intn(50) {
	case 0:
		x.Weight = math.MinInt
	case 1:
		x.Weight = math.MaxInt
	case 2:
		x.Number = math.MinInt
	}
	return x
}

// question: an f that is drawn, mostly one that takes few.
func (c *chance) question() func(queue.Item) bool {
	a, n := c.item(), 2+c.Intn(9)
	return [...]func(queue.Item) bool{
		nil, never,
		func(x queue.Item) bool { return x == a },
		func(x queue.Item) bool { return x.Weight == a.Weight },
		func(x queue.Item) bool { return x.Number == a.Number },
		func(x queue.Item) bool { return (x.Weight+x.Number)%n == 0 },
		func(x queue.Item) bool { return x.Weight < a.Weight && x.Number > a.Number },
	}[c.Intn(7)]
}

// push, pop, drop and same: the queue answers as the list does.
func (c *chance) push(p *pair) {
	x := c.item()
	got, want := p.q.Push(x), p.m.push(x)
	c.told("Push", int(want))
	if got != want {
		c.Fatalf("Push(%v) to %v: error %d; want %d", x, p.m, got, want)
	}
}

func (c *chance) pop(p *pair) {
	before := slices.Clone(p.m)
	x, e := p.q.Pop()
	wantItem, want := p.m.pop()
	c.told("Pop", int(want))
	if x != wantItem || e != want {
		c.Fatalf("Pop of %v: %v, error %d; want %v, error %d", before, x, e, wantItem, want)
	}
}

func (c *chance) drop(p *pair, f func(queue.Item) bool) {
	before := slices.Clone(p.m)
	got, want := p.q.Drop(f), p.m.drop(f)
	c.told("Drop", min(want, 1)) // none, or some
	if got != want {
		c.Fatalf("Drop of %v: %d; want %d, so that %v stay", before, got, want, p.m)
	}
}

func (c *chance) told(call string, end int) {
	c.ends[fmt.Sprint(call, " ", end)]++
}

// round: one call of one of the pairs; a copy takes the place of another.
func (c *chance) round(pairs []pair, grows int) {
	p := &pairs[c.Intn(len(pairs))]
	switch n := c.Intn(1000); {
	case n < grows:
		c.push(p)
	case n < 970:
		c.pop(p)
	case n < 990:
		c.drop(p, c.question())
	case n < 999:
		pairs[c.Intn(len(pairs))] = pair{p.q.Copy(), slices.Clone(p.m)}
	default:
		c.drop(p, always)
	}
	if p.q.Len() != len(p.m) {
		c.Fatalf("Len of %v: %d", p.m, p.q.Len())
	}
}

// P12.1: long runs of all calls, to several queues that were copied from one another, held against plain lists.
func TestModel(t *testing.T) {
	ends := map[string]int{}
	for seed := range int64(60) {
		c := &chance{t, rand.New(rand.NewSource(seed)), []int{1, 2, 5, 40, 1 << 40}[seed%5], ends}
		pairs := []pair{{queue.New(), nil}, {&queue.Queue{}, nil}, {queue.New(), nil}}
		for i := range 8000 {
			c.round(pairs, []int{960, 300, 600, 480}[i/1000%4])
		}
		for i := range pairs {
			for range len(pairs[i].m) + 1 { // the last one tells that there is none
				c.pop(&pairs[i])
			}
		}
	}
	for _, end := range []string{"Push 0", fmt.Sprint("Push ", api.ErrFull), "Pop 0", fmt.Sprint("Pop ", api.ErrNone), "Drop 0", "Drop 1"} {
		if ends[end] < 1000 {
			t.Errorf("what was drawn tells little of %s: %v", end, ends)
		}
	}
}

// R4: two queues to which the same was done answer the same, whatever was asked of one in between.
func TestSameAgain(t *testing.T) {
	for seed := range int64(20) {
		r := rand.New(rand.NewSource(seed))
		a, b := queue.New(), queue.New()
		for range 2000 {
			x := queue.Item{Weight: r.Intn(4), Number: r.Intn(1000)}
			b.Len()
			b.Copy().Pop()
			b.Drop(never)
			switch n := r.Intn(9); {
			case n < 5:
				if a.Push(x) != b.Push(x) {
					t.Fatalf("seed %d: Push(%v) differs", seed, x)
				}
			case n < 8:
				xa, ea := a.Pop()
				if xb, eb := b.Pop(); xa != xb || ea != eb {
					t.Fatalf("seed %d: Pop: %v, error %d, and %v, error %d", seed, xa, ea, xb, eb)
				}
			default:
				if n := a.Drop(is(x.Number)); n != b.Drop(is(x.Number)) {
					t.Fatalf("seed %d: Drop differs from %d", seed, n)
				}
			}
		}
	}
}
