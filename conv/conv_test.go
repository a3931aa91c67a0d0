package conv_test

import (
	"math"
	"testing"

	"touchstone/api"
	"touchstone/conv"
	"touchstone/env"
)

// much: more than any term of these tests needs.
var much = api.Meter{Fuel: 1000, Cells: 1000}

// asked: two terms, whether they mean the same, and how much fuel it takes to tell.
type asked struct {
	a, b string
	is   bool
	fuel int
}

var alikes = []asked{
	{`a`, `a`, true, 1}, {`#3`, `#3`, true, 1}, {`*0`, `*0`, true, 1}, {`*Mp0p1`, `*Mp1p0`, true, 1}, {`*Ip00`, `*0`, true, 1},
	{`(f a)`, `(f a)`, true, 1}, {`\a. #0`, `\a. #0`, true, 1}, {`!a. #0`, `!a. #0`, true, 1}, {`=a:b. #0`, `=a:b. #0`, true, 1},
	{`two`, `two`, true, 1}, {`((plus two) two)`, `((plus two) two)`, true, 1}, {`loop`, `loop`, true, 1}, {`(loop a)`, `(loop a)`, true, 1},
	{`(\a. (#0 #0) \a. (#0 #0))`, `(\a. (#0 #0) \a. (#0 #0))`, true, 1}, {`id{Mp0p1}`, `id{Mp1p0}`, true, 1}, {`((Empty.rec{0} C) loop)`, `((Empty.rec{0} C) loop)`, true, 1},
}

var heads = []asked{
	{`(\a. #0 b)`, `b`, true, 2}, {`b`, `(\a. #0 b)`, true, 2}, {`(\a. #0 b)`, `=a:b. #0`, true, 3}, {`=a:b. #0`, `b`, true, 2},
	{`two`, `(suc (suc zero))`, true, 2}, {`(suc (suc zero))`, `two`, true, 2}, {`g`, `f`, true, 2}, {`(g a)`, `(f a)`, true, 2},
	{`id{S0}`, `\*S0. \#0. #0`, true, 2}, {`((id{S0} Nat) two)`, `two`, true, 6}, {`((((Nat.rec{0} C) a) b) zero)`, `a`, true, 2},
	{`((((Nat.rec{0} C) a) b) (suc f))`, `((b f) ((((Nat.rec{0} C) a) b) f))`, true, 2}, {`((((Nat.rec{0} C) a) b) (i zero))`, `a`, true, 4},
	{`(\a. #0 a)`, `b`, false, 2}, {`a`, `=a:b. #0`, false, 2}, {`two`, `zero`, false, 2}, {`(i a)`, `(i b)`, false, 5},
	{`(i *0)`, `*S0`, false, 3}, {`(i *p0)`, `*Mp00`, true, 3}, {`(i !a. b)`, `!a. b`, true, 3},
}

var binders = []asked{
	{`!a. (i b)`, `!a. b`, true, 5}, {`!(i a). b`, `!a. b`, true, 5}, {`!(i a). (i b)`, `!a. b`, true, 7}, {`!a. b`, `!b. (i b)`, false, 2}, {`!a. b`, `!a. c`, false, 3},
	{`!(i a). b`, `!c. loop`, false, 4}, {`\a. (i b)`, `\a. b`, true, 5}, {`\(i a). b`, `\a. b`, true, 5}, {`\a. b`, `\b. b`, false, 2}, {`\a. b`, `\a. c`, false, 3},
	{`\a. b`, `\b. loop`, false, 2}, {`!a. b`, `\a. b`, false, 2}, {`\a. b`, `!a. b`, false, 2}, {`!a. \(i a). #1`, `!a. \a. (i #1)`, true, 9},
	{`!#0. #0`, `!#0. #1`, false, 3}, {`!a. !b. c`, `!a. !b. (i c)`, true, 7},
}

var functions = []asked{
	{`\a. (f #0)`, `f`, true, 2}, {`f`, `\a. (f #0)`, true, 2}, {`\a. (#1 #0)`, `#0`, true, 2}, {`#4`, `\a. (#5 #0)`, true, 2}, {`\a. (#0 #0)`, `#0`, false, 2},
	{`\a. (f #1)`, `f`, false, 3}, {`\a. (f (i #0))`, `f`, true, 5}, {`f`, `\a. (f (i #0))`, true, 5}, {`\a. \b. ((f #1) #0)`, `f`, true, 3},
	{`f`, `\a. \b. ((f #1) #0)`, true, 3}, {`\a. \b. ((f #0) #1)`, `f`, false, 4}, {`\a. ((f #1) #0)`, `(f #0)`, true, 2}, {`(f #0)`, `\a. ((f #1) #0)`, true, 2},
	{`\a. ((f #0) #1)`, `(f #0)`, false, 3}, {`\a. b`, `b`, false, 2}, {`\a. \b. #0`, `*0`, false, 3}, {`!a. b`, `\c. (!a. b #0)`, true, 2},
	{`!\a. (f #0). b`, `!f. b`, true, 4}, {`!a. \a. (f #0)`, `!a. f`, true, 4}, {`!a. f`, `!a. \a. (f #0)`, true, 4}, {`!a. \b. (#1 #0)`, `!a. #0`, true, 4},
	{`!a. \b. (#0 #0)`, `!a. #0`, false, 4}, {`(f \a. (f #0))`, `(f f)`, true, 3}, {`(f f)`, `(f \a. (f #0))`, true, 3}, {`\b. \a. ((#1 #0) #0)`, `\b. \a. ((\c. (#2 #0) #0) #0)`, true, 6},
	{`\a. (g #0)`, `f`, true, 3}, {`(i \a. (f #0))`, `f`, true, 4}, {`f`, `(i \a. (f #0))`, true, 4}, {`eta`, `f`, true, 3}, {`f`, `eta`, true, 3}, {`eta`, `g`, true, 4},
	{`\a. (((Nat.rec{0} C) a) b)`, `f`, false, 2}, {`\a. ((((Nat.rec{0} C) a) b) #0)`, `(((Nat.rec{0} C) a) b)`, true, 2}, {`(((Nat.rec{0} C) a) b)`, `\a. ((((Nat.rec{0} C) a) b) (i #0))`, true, 10},
}

var spines = []asked{
	{`(#0 (i a))`, `(#0 a)`, true, 4}, {`(#0 a)`, `(#0 (i a))`, true, 4}, {`(#0 a)`, `(#1 a)`, false, 1}, {`(#0 a)`, `((#0 a) a)`, false, 1}, {`((#0 a) a)`, `(#0 a)`, false, 1},
	{`#0`, `#1`, false, 1}, {`a`, `b`, false, 1}, {`c{p0}`, `c{p1}`, false, 1}, {`c{p0}`, `c`, false, 1}, {`c{p0}`, `c{p0,p0}`, false, 1}, {`(f (i a))`, `(f a)`, true, 4},
	{`((f (i a)) (i b))`, `((f a) b)`, true, 7}, {`(f a)`, `(b a)`, false, 1}, {`(f a)`, `f`, false, 1}, {`f`, `(f a)`, false, 1}, {`(f a)`, `(f b)`, false, 2},
	{`(c{Mp0p1} (i a))`, `(c{Mp1p0} a)`, true, 4}, {`(c{p0} (i a))`, `(c{p1} a)`, false, 1}, {`(c{p0,p1} (i a))`, `(c{p0,Mp1p1} a)`, true, 4}, {`(c{p0,p1} (i a))`, `(c{p1,p0} a)`, false, 1},
	{`(c{p0} (i a))`, `(c a)`, false, 1}, {`(c{p0} (i a))`, `(c{p0,p1} a)`, false, 1}, {`((f a) loop)`, `((f b) b)`, false, 2}, {`(((f (i a)) c) loop)`, `(((f a) b) b)`, false, 5},
	{`(*0 a)`, `(*0 (i a))`, false, 1}, {`(!a. b a)`, `(!a. b (i a))`, false, 1}, {`(f *0)`, `(f *S0)`, false, 2}, {`(suc (i zero))`, `(suc zero)`, true, 4}, {`(suc zero)`, `two`, false, 3},
	{`((plus (suc zero)) (suc zero))`, `two`, true, 10}, {`((((Nat.rec{0} C) a) b) (i #0))`, `((((Nat.rec{0} C) a) b) #0)`, true, 9}, {`((((Nat.rec{0} C) a) b) (f (i a)))`, `((((Nat.rec{0} C) a) b) (f a))`, true, 8},
	{`(a.rec zero)`, `(a.rec (i zero))`, true, 4}, {`(id (i a))`, `(id a)`, true, 4}, {`(id{p0,p1} (i a))`, `(id{p0,p1} a)`, true, 4}, {`(#0 #0)`, `(#0 \a. (#1 #0))`, true, 3},
}

var sorts = []asked{
	{`*0`, `*S0`, false, 1}, {`*p0`, `*p1`, false, 1}, {`*Mp0S0`, `*Sp0`, false, 1}, {`*0`, `a`, false, 1}, {`*0`, `!a. b`, false, 1}, {`*0`, `#0`, false, 1}, {`*0`, `(f a)`, false, 1},
	{`*Ip0p1`, `*Mp0p1`, false, 1}, {`*Ip0Sp1`, `*Mp0Sp1`, true, 1},
}

var allAsked = [][]asked{alikes, heads, binders, functions, spines, sorts}

// P14.2: what Conv says, how much fuel it takes, and that with less it is ErrFuel, whichever term comes first.
func TestConv(t *testing.T) {
	e := common()
	for _, list := range allAsked {
		for _, x := range list {
			a, b := of(x.a), of(x.b)
			is, n, err := conv.Conv(e, a, b, much)
			if is != x.is || n != (api.Meter{Fuel: much.Fuel - x.fuel, Cells: much.Cells}) || err != api.OK {
				t.Errorf("Conv of %s, %s: %v, %v, %d, want %v, %d steps", x.a, x.b, is, n, err, x.is, x.fuel)
			}
			for fuel := range x.fuel {
				is, n, err := conv.Conv(e, a, b, api.Meter{Fuel: fuel, Cells: 1000})
				if is || n != (api.Meter{Cells: 1000}) || err != api.ErrFuel {
					t.Errorf("Conv of %s, %s with fuel %d: %v, %v, %d, want ErrFuel", x.a, x.b, fuel, is, n, err)
				}
			}
			is, n, err = conv.Conv(e, a, b, api.Meter{Fuel: x.fuel, Cells: math.MaxInt})
			if is != x.is || n != (api.Meter{Cells: math.MaxInt}) || err != api.OK {
				t.Errorf("Conv of %s, %s with fuel %d: %v, %v, %d, want %v", x.a, x.b, x.fuel, is, n, err, x.is)
			}
			if is, n, err := conv.Conv(e, b, a, much); is != x.is || n.Cells != much.Cells || err != api.OK {
				t.Errorf("Conv of %s, %s: %v, %v, %d, want %v", x.b, x.a, is, n, err, x.is)
			}
		}
	}
}

// way: two terms, and what comes of them with a meter.
type way struct {
	a, b string
	m    api.Meter
	is   bool
	left int
	err  api.Errno
}

// P14.2: no fuel is ErrFuel, also of terms that are alike; a number below 0 counts as 0, and stays.
func TestNoFuel(t *testing.T) {
	for _, x := range []string{`a`, `*0`, `loop`, `\a. #0`} {
		for _, fuel := range []int{0, -1, math.MinInt} {
			m := api.Meter{Fuel: fuel, Cells: 9}
			if is, n, err := conv.Conv(common(), of(x), of(x), m); is || n != m || err != api.ErrFuel {
				t.Errorf("Conv of %s and itself with fuel %d: %v, %v, %d, want ErrFuel", x, fuel, is, n, err)
			}
		}
	}
}

// P14.2: errors of either Whnf, and of pairs below: what is left beside each.
func TestErrors(t *testing.T) {
	e := common()
	for _, x := range []way{
		{`loop`, `a`, api.Meter{Fuel: 50, Cells: 9}, false, 0, api.ErrFuel},
		{`a`, `loop`, api.Meter{Fuel: 50, Cells: 9}, false, 0, api.ErrFuel},
		{`(loop a)`, `two`, api.Meter{Fuel: 50, Cells: 9}, false, 0, api.ErrFuel},
		{`two`, `a`, api.Meter{Fuel: 1, Cells: 9}, false, 0, api.ErrFuel},
		{`two`, `a`, api.Meter{Fuel: 2, Cells: 9}, false, 0, api.OK},
		{`two`, `a`, api.Meter{Fuel: 50, Cells: 4}, false, 48, api.ErrCells},
		{`two`, `a`, api.Meter{Fuel: 50, Cells: 5}, false, 48, api.OK},
		{`a`, `two`, api.Meter{Fuel: 50, Cells: 4}, false, 48, api.ErrCells},
		{`(i a)`, `two`, api.Meter{Fuel: 50, Cells: 4}, false, 48, api.ErrCells}, // i's value, applied, has 5 parts
		{`=a:b. #0`, `two`, api.Meter{Fuel: 50, Cells: 4}, false, 47, api.ErrCells},
		{`two`, `loop`, api.Meter{Fuel: 50, Cells: 4}, false, 48, api.ErrCells},
		{`loop`, `two`, api.Meter{Fuel: 50, Cells: 4}, false, 0, api.ErrFuel},
		{`((plus a) zero)`, `a`, api.Meter{Fuel: 50, Cells: 3}, false, 48, api.ErrCells},
		{`(f two)`, `(f a)`, api.Meter{Fuel: 50, Cells: 4}, false, 47, api.ErrCells},
		{`(f two)`, `(f two)`, api.Meter{Fuel: 50, Cells: 0}, true, 49, api.OK},
		{`(f (i a))`, `(f a)`, api.Meter{Fuel: 3, Cells: 9}, false, 0, api.ErrFuel},
		{`(f a)`, `(f loop)`, api.Meter{Fuel: 30, Cells: 9}, false, 0, api.ErrFuel},
		{`!a. loop`, `!a. b`, api.Meter{Fuel: 30, Cells: 9}, false, 0, api.ErrFuel},
		{`!a. loop`, `!b. b`, api.Meter{Fuel: 30, Cells: 9}, false, 28, api.OK},
		{`((Empty.rec{0} C) loop)`, `a`, api.Meter{Fuel: 30, Cells: 9}, false, 0, api.ErrFuel},
		{`((((Nat.rec{0} C) a) b) two)`, `a`, api.Meter{Fuel: 30, Cells: 4}, false, 28, api.ErrCells},
		{`a`, `a`, api.Meter{Fuel: 30}, true, 29, api.OK},
		{`a`, `b`, api.Meter{Fuel: 30, Cells: -1}, false, 29, api.OK},
		{`(i a)`, `a`, api.Meter{Fuel: 30, Cells: math.MinInt}, false, 28, api.ErrCells},
		{`f`, `lams`, api.Meter{Fuel: 1001, Cells: 9}, false, 0, api.ErrFuel},
		{`pis`, `(i pis)`, api.Meter{Fuel: 1001, Cells: 9}, true, 996, api.OK},
	} {
		is, n, err := conv.Conv(e, of(x.a), of(x.b), x.m)
		if is != x.is || n != (api.Meter{Fuel: x.left, Cells: x.m.Cells}) || err != x.err {
			t.Errorf("Conv of %s, %s with %v: %v, %v, %d, want %v, %d left, %d", x.a, x.b, x.m, is, n, err, x.is, x.left, x.err)
		}
	}
}

// P14.2: what a definition, or a recursor, has in its environment decides; a nil one and a zero one have none.
func TestEnvironments(t *testing.T) {
	for what, e := range map[string]*env.Env{"nil": nil, "zero": new(env.Env), "new": env.New(), "of others": with(def("x", 0, "a"))} {
		for _, x := range []asked{
			{`a`, `a`, true, 1}, {`two`, `(suc (suc zero))`, false, 1}, {`g`, `f`, false, 1}, {`(\a. #0 b)`, `b`, true, 2}, {`\a. (g #0)`, `g`, true, 2},
			{`((((Nat.rec{0} C) a) b) zero)`, `a`, false, 1}, {`(g (\a. #0 b))`, `(g b)`, true, 3}, {`loop`, `lams`, false, 1},
		} {
			is, n, err := conv.Conv(e, of(x.a), of(x.b), much)
			if is != x.is || n.Fuel != much.Fuel-x.fuel || err != api.OK {
				t.Errorf("%s: Conv of %s, %s: %v, %v, %d, want %v, %d steps", what, x.a, x.b, is, n, err, x.is, x.fuel)
			}
		}
	}
	e := with(def("x", 0, "a"))
	o := e.Over()
	if err := o.Add(def("y", 0, "x")); err != api.OK {
		t.Fatal(err)
	}
	if is, n, err := conv.Conv(o, con("y"), con("a"), much); !is || n.Fuel != much.Fuel-3 || err != api.OK {
		t.Errorf("with a definition beneath: %v, %v, %d", is, n, err)
	}
	if is, _, err := conv.Conv(e, con("y"), con("a"), much); is || err != api.OK {
		t.Errorf("with a definition above: %v, %d", is, err)
	}
}
