package conv

import (
	"testing"

	"touchstone/api"
	"touchstone/env"
	"touchstone/graph"
	"touchstone/text"
)

// P14.2: pairs that are alike are counted as long as they wait: there may be as many as there is fuel.
func TestFewWait(t *testing.T) {
	of := func(s string) api.Term {
		x, _, err := text.Parse(s)
		if err != api.OK {
			t.Fatal(s, err)
		}
		return x
	}
	e := env.New()
	for name, value := range map[string]string{"d": "!d{p0}. (f a{p0})", "e": "!e{p0}. (f a{Mp0p0})"} {
		if err := e.Add(api.Decl{Kind: api.DeclDef, Name: name, Params: 1, Value: of(value)}); err != api.OK {
			t.Fatal(err)
		}
	}
	a, b := of("d{p1}"), of("e{p1}")
	c := comparison{book: graph.NewBook(e), meter: api.Meter{Fuel: 200000, Cells: 50}}
	if c.means(graph.Pair{A: graph.Read(&a), B: graph.Read(&b)}) || c.err != api.ErrFuel || c.meter.Fuel != 0 {
		t.Errorf("%v, %d, want ErrFuel", c.meter, c.err)
	}
	if len(c.waiting) > 2 {
		t.Errorf("%d wait, want no more than 2", len(c.waiting))
	}
}

// P14.2: what waits takes its steps in its turn, all that there are and no more.
func TestPay(t *testing.T) {
	for _, x := range []struct {
		fuel, steps, left int
		ok                bool
	}{{5, 0, 5, true}, {5, 5, 0, true}, {5, 6, 0, false}, {0, 0, 0, true}, {0, 1, 0, false}, {-3, 0, -3, true}} {
		c := comparison{meter: api.Meter{Fuel: x.fuel, Cells: 7}}
		ok := c.pay(x.steps)
		if ok != x.ok || c.meter != (api.Meter{Fuel: x.left, Cells: 7}) || (c.err == api.ErrFuel) == ok {
			t.Errorf("pay %d of %d: %v, %v, %d", x.steps, x.fuel, ok, c.meter, c.err)
		}
	}
}
