package norm_test

import (
	"math"
	"testing"

	"touchstone/api"
	"touchstone/env"
	"touchstone/norm"
	"touchstone/term"
)

// much: more than any term of these tests needs.
var much = api.Meter{Fuel: 1000, Cells: 1000}

// way: a term, its norm, and how much fuel it takes.
type way struct {
	from, to string
	fuel     int
}

var leaves = []way{
	{`#0`, `#0`, 1}, {`#7`, `#7`, 1}, {`*0`, `*0`, 1}, {`*Mp0p1`, `*Mp0p1`, 1}, {`a`, `a`, 1}, {`c{p0}`, `c{p0}`, 1}, {`id`, `id`, 1}, {`Nat.rec{0}`, `Nat.rec{0}`, 1},
}

// heads: of which steps are taken.
var heads = []way{
	{`(\a. #0 b)`, `b`, 2}, {`=a:b. #0`, `b`, 2}, {`=a:b. c`, `c`, 2}, {`(=a:b. #0 c)`, `(b c)`, 3}, {`=a:=a:b. #0. #0`, `b`, 3},
	{`(\a. (#0 #1) b)`, `(b #0)`, 3}, {`((\a. \a. (#1 #0) f) #3)`, `(f #3)`, 4}, {`g`, `f`, 2}, {`(g a)`, `(f a)`, 3}, {`(i (i a))`, `a`, 5},
	{`two`, `(suc (suc zero))`, 4}, {`((id{S0} Nat) a)`, `a`, 4}, {`id{S0}`, `\*S0. \#0. #0`, 6}, {`sorts{p1,p0}`, `\*p1. \*p0. (f *Mp1Sp0)`, 7},
	{`((((Nat.rec{0} C) a) b) zero)`, `a`, 2}, {`((((Nat.rec{0} C) a) \a. \a. #0) two)`, `a`, 9}, {`(((((Nat.rec{0} C) f) b) zero) (i a))`, `(f a)`, 5},
	{`((plus a) zero)`, `a`, 5}, {`((plus two) two)`, `(suc (suc (suc (suc zero))))`, 17}, {`((plus a) (suc #3))`, `(suc ((((Nat.rec{S0} \Nat. Nat) a) \Nat. suc) #3))`, 19},
}

var lams = []way{
	{`\a. b`, `\a. b`, 3}, {`\(i a). b`, `\a. b`, 5}, {`\a. (i b)`, `\a. b`, 5}, {`\(i a). (i b)`, `\a. b`, 7}, {`\a. #0`, `\a. #0`, 3}, {`\a. (i #0)`, `\a. #0`, 5},
	{`\a. \b. #1`, `\a. \b. #1`, 5}, {`(i \a. (i b))`, `\a. b`, 7}, {`\a. (\a. \a. #1 #0)`, `\a. \a. #1`, 6}, {`\\(i a). (i b). \(i a). #1`, `\\a. b. \a. #1`, 13},
}

var pis = []way{
	{`!a. b`, `!a. b`, 3}, {`!(i a). b`, `!a. b`, 5}, {`!a. (i b)`, `!a. b`, 5}, {`!(i a). (i #0)`, `!a. #0`, 7}, {`(i !a. (i b))`, `!a. b`, 7},
	{`!a. \(i b). (i #1)`, `!a. \b. #1`, 9}, {`\a. !(i b). (i #0)`, `\a. !b. #0`, 9}, {`!\(i a). b. !a. (i #1)`, `!\a. b. !a. #1`, 11}, {`!a. (f #0)`, `!a. (f #0)`, 4},
}

// functions: Lams whose end is an App to their own variable.
var functions = []way{
	{`\a. (f #0)`, `f`, 4}, {`\a. (#1 #0)`, `#0`, 4}, {`\a. (#4 #0)`, `#3`, 4}, {`\a. (#0 #0)`, `\a. (#0 #0)`, 4}, {`\a. ((f #0) #0)`, `\a. ((f #0) #0)`, 5}, {`\a. ((f #1) #0)`, `(f #0)`, 5},
	{`\a. (f #1)`, `\a. (f #1)`, 4}, {`\a. (f b)`, `\a. (f b)`, 4}, {`\a. ((#3 #7) #0)`, `(#2 #6)`, 5}, {`\a. ((f \b. (#0 #2)) #0)`, `(f \b. (#0 #1))`, 8}, {`\a. ((f \b. (#0 #1)) #0)`, `\a. ((f \b. (#0 #1)) #0)`, 8},
	{`\a. ((f !b. (#0 #5)) #0)`, `(f !b. (#0 #4))`, 8}, {`\a. (*0 #0)`, `*0`, 4}, {`\a. (c{p1} #0)`, `c{p1}`, 4}, {`\a. (!a. #1 #0)`, `\a. (!a. #1 #0)`, 4}, {`\a. (!a. #2 #0)`, `!a. #1`, 4},
	{`\a. (f (i #0))`, `f`, 6}, {`\a. (i (f #0))`, `f`, 6}, {`\a. (g #0)`, `f`, 5}, {`\a. =b:#0. (f #0)`, `f`, 5}, {`\a. =b:#0. (f #1)`, `f`, 5}, {`\a. ((\b. \b. (#2 #0) #3) #0)`, `\a. (#0 #0)`, 6}, {`\a. ((\b. \b. (#1 #0) #3) #0)`, `#2`, 6},
	{`\a. ((f (\b. c #0)) #0)`, `(f c)`, 6}, {`\a. ((f (\b. #1 #3)) #0)`, `\a. ((f #0) #0)`, 6}, {`\a. (\b. (#1 #0) #0)`, `\a. (#0 #0)`, 5}, {`\a. (\b. (f #0) #0)`, `f`, 5},
	{`\a. \b. ((f #1) #0)`, `f`, 7}, {`\a. \b. ((f #0) #1)`, `\a. \b. ((f #0) #1)`, 7}, {`\a. \b. ((#5 #1) #0)`, `#3`, 7}, {`\a. \b. (#1 #0)`, `\a. #0`, 6}, {`\a. \b. (#2 #0)`, `\a. #1`, 6}, {`\a. \b. (f #0)`, `\a. f`, 6},
	{`\a. \b. \c. (((f #2) #1) #0)`, `f`, 10}, {`\a. \b. \c. (((f #2) #2) #0)`, `\a. \b. ((f #1) #1)`, 10}, {`\a. \b. \c. (((#3 #2) #1) #0)`, `#0`, 10}, {`\a. (\b. (#1 #0) b)`, `\a. (#0 b)`, 5},
	{`(\a. f #0)`, `f`, 2}, {`\a. (\a. f #0)`, `\a. f`, 4}, {`eta`, `f`, 5}, {`(i \a. (f #0))`, `f`, 6}, {`(f \a. (f #0))`, `(f f)`, 5}, {`!a. \b. (#1 #0)`, `!a. #0`, 6}, {`\\a. (f #0). b`, `\f. b`, 6}, {`\a. (\b. (f #0) (i #0))`, `f`, 7},
	{`twice`, `\a. ((f #0) #0)`, 6}, {`\a. ((f loops) #0)`, `(f loops)`, 5}, {`\a. ((((Nat.rec{0} C) a) b) #0)`, `(((Nat.rec{0} C) a) b)`, 7}, {`\a. ((((Nat.rec{0} C) a) #0) #0)`, `\a. ((((Nat.rec{0} C) a) #0) #0)`, 7},
	// What a Lam binds is asked for its norm also where it is dropped.
	{`\(i a). (f #0)`, `f`, 6}, {`\two. (f #0)`, `f`, 7}, {`\\(i a). (f #0). (g #0)`, `f`, 10}, {`\(i a). (f #1)`, `\a. (f #1)`, 6}, {`!a. \(i b). (f #0)`, `!a. f`, 8},
	// What is dropped in a part is gone for what stands around it.
	{`\a. (\b. (f #0) #1)`, `\a. (f #1)`, 5}, {`\a. (#1 \b. (f #0))`, `\a. (#1 f)`, 7}, {`\a. \b. ((f \c. (#1 #0)) #0)`, `\a. \b. ((f #0) #0)`, 10}, {`\a. ((f \c. (#2 #0)) #0)`, `(f #0)`, 8},
}

// rows: heads with arguments.
var rows = []way{
	{`(#0 a)`, `(#0 a)`, 2}, {`(#0 (i a))`, `(#0 a)`, 4}, {`((#3 (i a)) two)`, `((#3 a) (suc (suc zero)))`, 8}, {`((f two) (i a))`, `((f (suc (suc zero))) a)`, 8}, {`(((c{p1} a) (i b)) c)`, `(((c{p1} a) b) c)`, 6},
	{`(f (f (i a)))`, `(f (f a))`, 5}, {`(f \a. (i b))`, `(f \a. b)`, 6}, {`(f !(i a). b)`, `(f !a. b)`, 6}, {`(suc (\a. two b))`, `(suc (suc (suc zero)))`, 6}, {`(id (i a))`, `(id a)`, 4}, {`(id{p0,p1} (i a))`, `(id{p0,p1} a)`, 4},
	// Of another head, which is none, its own parts stay as they are.
	{`(*0 (i a))`, `(*0 a)`, 4}, {`(!(i a). b (i a))`, `(!(i a). b a)`, 4},
}

// stuck: recursors whose majors come to no constructor.
var stuck = []way{
	{`((((Nat.rec{0} C) a) b) #0)`, `((((Nat.rec{0} C) a) b) #0)`, 5}, {`((((Nat.rec{0} C) a) b) (i #0))`, `((((Nat.rec{0} C) a) b) #0)`, 9}, {`((((Nat.rec{0} (i C)) (i a)) b) #0)`, `((((Nat.rec{0} C) a) b) #0)`, 9},
	{`(((Nat.rec{0} C) a) two)`, `(((Nat.rec{0} C) a) (suc (suc zero)))`, 7}, {`((((Nat.rec{0} C) a) b) (f two))`, `((((Nat.rec{0} C) a) b) (f (suc (suc zero))))`, 9}, {`(((((Nat.rec{0} C) a) b) #0) (i a))`, `(((((Nat.rec{0} C) a) b) #0) a)`, 8},
	{`((((Nat.rec{0} C) a) b) ((((Nat.rec{0} C) a) b) (i #0)))`, `((((Nat.rec{0} C) a) b) ((((Nat.rec{0} C) a) b) #0))`, 15}, {`((Empty.rec{0} (i C)) (i #1))`, `((Empty.rec{0} C) #1)`, 9},
	// A major that is a constructor once its parts are at their ends is none for its own recursor.
	{`((((Nat.rec{0} C) a) b) \a. (zero #0))`, `((((Nat.rec{0} C) a) b) zero)`, 8},
}

// recursors: that come to constructors.
var recursors = []way{
	{`((((Nat.rec{0} C) (i a)) b) zero)`, `a`, 4}, {`((((Nat.rec{0} C) a) f) (suc #3))`, `((f #3) ((((Nat.rec{0} C) a) f) #3))`, 8}, {`(((Tree.rec{0} C) a) b)`, `(((Tree.rec{0} C) a) b)`, 4},
	{`((((Tree.rec{0} C) a) f) (tree #5))`, `((f #5) \Nat. ((((Tree.rec{0} C) a) f) (#6 #0)))`, 11}, {`((((Tree.rec{0} C) a) \a. \a. #0) (tree \Nat. leaf))`, `\Nat. a`, 8},
}

// opens: definitions whose values have free variables, which a step brings as they are.
var opens = []way{
	{`o`, `#0`, 2}, {`\a. o`, `\a. #0`, 4}, {`\a. (f o)`, `f`, 5}, {`\a. ((f o) #0)`, `\a. ((f #0) #0)`, 6}, {`(open #0)`, `((#1 #2) #0)`, 7}, {`\a. (open #0)`, `(#0 #1)`, 9},
	{`(\b. ((f #0) \a. #1) (open #0))`, `((f ((#1 #2) #0)) \a. ((#1 #2) #1))`, 18}, {`(\b. ((f \a. #1) #0) (open #5))`, `((f \a. ((#1 #2) #6)) ((#1 #2) #5))`, 18},
	{`(\b. ((f #0) \a. #1) \a. ((f o) #1))`, `((f \a. ((f #0) #1)) \a. \a. ((f #0) #2))`, 16}, {`((f (\b. \a. #1 #3)) o)`, `((f \a. #4) #0)`, 7},
}

var allWays = [][]way{leaves, heads, lams, pis, functions, rows, stuck, recursors, opens}

// P15.1: what Norm tells, how much fuel it takes, and that with less it is ErrFuel, and none is left.
func TestNorm(t *testing.T) {
	e := common()
	for _, list := range allWays {
		for _, x := range list {
			u, n, err := norm.Norm(e, of(x.from), much)
			if !term.Equal(u, of(x.to)) || n != (api.Meter{Fuel: much.Fuel - x.fuel, Cells: much.Cells}) || err != api.OK {
				t.Errorf("Norm of %s: %s, %d steps, %d, want %s, %d steps", x.from, show(u), much.Fuel-n.Fuel, err, x.to, x.fuel)
			}
			for fuel := range x.fuel {
				u, n, err := norm.Norm(e, of(x.from), api.Meter{Fuel: fuel, Cells: 1000})
				if !term.Equal(u, api.Term{}) || n != (api.Meter{Cells: 1000}) || err != api.ErrFuel {
					t.Errorf("Norm of %s with fuel %d: %s, %v, %d, want ErrFuel", x.from, fuel, show(u), n, err)
				}
			}
			u, n, err = norm.Norm(e, of(x.from), api.Meter{Fuel: x.fuel, Cells: math.MaxInt})
			if !term.Equal(u, of(x.to)) || n != (api.Meter{Cells: math.MaxInt}) || err != api.OK {
				t.Errorf("Norm of %s with fuel %d: %s, %v, %d, want %s", x.from, x.fuel, show(u), n, err, x.to)
			}
		}
	}
}

// What follows: Norm of what it told tells the same, and takes one of the fuel for each part, but for heads with arguments.
func TestNormOfNorm(t *testing.T) {
	e := common()
	for _, list := range [][]way{leaves, heads, lams, pis, functions, rows, recursors, stuck[:len(stuck)-1]} {
		for _, x := range list {
			if x.from == `(!(i a). b (i a))` { // it has no type
				continue
			}
			u, n, err := norm.Norm(e, of(x.to), much)
			if !term.Equal(u, of(x.to)) || err != api.OK || n.Fuel >= much.Fuel {
				t.Errorf("Norm of %s: %s, %v, %d, want itself", x.to, show(u), n, err)
			}
		}
	}
}

// P15.1: a number of the meter below 0 counts as 0, and stays; fuel is asked for ahead of cells.
func TestNothingLeft(t *testing.T) {
	for _, x := range []string{`a`, `#0`, `*0`, `loop`, `\a. #0`, `!a. b`, `(f a)`} {
		for _, fuel := range []int{0, -1, math.MinInt} {
			for _, cells := range []int{9, 0, -1} {
				m := api.Meter{Fuel: fuel, Cells: cells}
				if u, n, err := norm.Norm(common(), of(x), m); !term.Equal(u, api.Term{}) || n != m || err != api.ErrFuel {
					t.Errorf("Norm of %s with %v: %s, %v, %d, want ErrFuel", x, m, show(u), n, err)
				}
			}
		}
	}
}

// errors: what comes of a term with a meter, where that is not enough.
var errors = []struct {
	from  string
	fuel  int
	cells int
	left  int
	err   api.Errno
}{
	// A step is taken, then the head's, then those of parts.
	{`loop`, 50, 9, 0, api.ErrFuel}, {`(loop a)`, 50, 9, 0, api.ErrFuel}, {`lams`, 50, 9, 0, api.ErrFuel}, {`pis`, 50, 9, 0, api.ErrFuel}, {`row`, 50, 9, 0, api.ErrFuel}, {`(lamsof{0} a)`, 50, 9, 0, api.ErrFuel},
	{`two`, 50, 4, 48, api.ErrCells}, {`(i a)`, 50, 4, 48, api.ErrCells}, {`(i a)`, 50, 5, 47, api.OK}, {`(f two)`, 50, 4, 47, api.ErrCells}, {`grow`, 50, 4, 48, api.ErrCells},
	{`((Empty.rec{0} C) loop)`, 50, 9, 0, api.ErrFuel}, {`((((Nat.rec{0} C) a) b) two)`, 50, 4, 48, api.ErrCells},
	// The first of several parts with errors, of each kind.
	{`((f two) loop)`, 50, 4, 47, api.ErrCells}, {`((f loop) two)`, 50, 4, 0, api.ErrFuel}, {`\two. loop`, 50, 4, 47, api.ErrCells}, {`\loop. two`, 50, 4, 0, api.ErrFuel},
	{`!two. loop`, 50, 4, 47, api.ErrCells}, {`!loop. two`, 50, 4, 0, api.ErrFuel}, {`!a. two`, 50, 4, 46, api.ErrCells}, {`\two. (f #0)`, 50, 4, 47, api.ErrCells}, {`\loop. (f #0)`, 50, 9, 0, api.ErrFuel},
	{`(((f a) two) loop)`, 50, 4, 46, api.ErrCells}, {`(((f a) loop) two)`, 50, 4, 0, api.ErrFuel}, {`((((Nat.rec{0} two) loop) b) #0)`, 50, 4, 47, api.ErrCells}, {`(loop two)`, 50, 4, 0, api.ErrFuel},
	{`((((Nat.rec{0} two) a) b) loop)`, 50, 4, 0, api.ErrFuel}, {`(\a. (\b. a loop) two)`, 50, 5, 47, api.OK},
	// What is told must fit, of each part: where all are at their ends.
	{`a`, 50, 0, 49, api.ErrCells}, {`#0`, 50, -1, 49, api.ErrCells}, {`(f a)`, 9, 2, 7, api.ErrCells}, {`(f a)`, 9, 3, 7, api.OK}, {`\a. b`, 9, 2, 6, api.ErrCells}, {`!a. b`, 9, 2, 6, api.ErrCells}, {`!a. b`, 9, 3, 6, api.OK},
	{`(f (f (f a)))`, 9, 6, 5, api.ErrCells}, {`(f (f (f a)))`, 9, 5, 5, api.ErrCells}, {`(f (f (f a)))`, 9, 4, 5, api.ErrCells}, {`(f (f (f a)))`, 9, 2, 5, api.ErrCells}, {`(f (f (f a)))`, 9, 0, 5, api.ErrCells},
	{`((f (f a)) loop)`, 9, 2, 6, api.ErrCells}, {`((f (f a)) loop)`, 9, 3, 0, api.ErrFuel}, {`\(f a). loop`, 9, 2, 6, api.ErrCells}, {`!(f a). loop`, 9, 2, 6, api.ErrCells}, {`!(f a). loop`, 9, 3, 0, api.ErrFuel},
	{`\a. (f #0)`, 9, 2, 5, api.ErrCells}, {`\a. (f #0)`, 9, 3, 5, api.OK}, {`\(f a). (f #0)`, 9, 2, 6, api.ErrCells}, {`\((f a) a). (f #0)`, 9, 4, 5, api.ErrCells}, {`\((f a) a). (f #0)`, 9, 5, 3, api.OK},
}

// P15.1: what is told beside an error, and what is left.
func TestErrors(t *testing.T) {
	e := common()
	for _, x := range errors {
		u, n, err := norm.Norm(e, of(x.from), api.Meter{Fuel: x.fuel, Cells: x.cells})
		if n != (api.Meter{Fuel: x.left, Cells: x.cells}) || err != x.err || err != api.OK && !term.Equal(u, api.Term{}) {
			t.Errorf("Norm of %s with fuel %d, %d cells: %s, %v, %d, want %d left, %d", x.from, x.fuel, x.cells, show(u), n, err, x.left, x.err)
		}
	}
}

// P15.1: what is told must fit, though each step's term did, and each part: a norm may be greater than what it is of.
func TestGreaterThanWhatItIsOf(t *testing.T) {
	e := with(def("d", 0, `((((f a) a) a) a)`))
	x := of(`((((f d) d) d) d)`) // 9 parts, each d's norm has 9
	for cells, want := range map[int]api.Errno{8: api.ErrCells, 9: api.ErrCells, 40: api.ErrCells, 41: api.OK, 1000: api.OK} {
		u, n, err := norm.Norm(e, x, api.Meter{Fuel: 100, Cells: cells})
		left := 100 - 1 - 4*6
		if cells == 8 { // the first d's step
			left = 100 - 3
		}
		if err != want || n != (api.Meter{Fuel: left, Cells: cells}) || err == api.OK && term.Size(u, 100) != 41 || err != api.OK && !term.Equal(u, api.Term{}) {
			t.Errorf("with %d cells: %s, %v, %d, want %d left, %d", cells, show(u), n, err, left, want)
		}
	}
}

// P15.1: what a definition, or a recursor, has in its environment decides; a nil one and a zero one have none.
func TestEnvironments(t *testing.T) {
	for what, e := range map[string]*env.Env{"nil": nil, "zero": new(env.Env), "new": env.New(), "of others": with(def("x", 0, "a"))} {
		for _, x := range []way{
			{`two`, `two`, 1}, {`(g (i a))`, `(g (i a))`, 3}, {`(\a. #0 (g b))`, `(g b)`, 3}, {`\a. (g #0)`, `g`, 4}, {`=a:b. \a. #1`, `\a. b`, 4},
			{`((((Nat.rec{0} C) a) b) zero)`, `((((Nat.rec{0} C) a) b) zero)`, 5}, {`loop`, `loop`, 1}, {`!a. (\b. #0 #0)`, `!a. #0`, 4},
		} {
			u, n, err := norm.Norm(e, of(x.from), much)
			if !term.Equal(u, of(x.to)) || n.Fuel != much.Fuel-x.fuel || err != api.OK {
				t.Errorf("%s: Norm of %s: %s, %d steps, %d, want %s, %d steps", what, x.from, show(u), much.Fuel-n.Fuel, err, x.to, x.fuel)
			}
		}
	}
	e := with(def("x", 0, "a"))
	o := e.Over()
	if err := o.Add(def("y", 0, "(f x)")); err != api.OK {
		t.Fatal(err)
	}
	if u, n, err := norm.Norm(o, of(`\y. y`), much); !term.Equal(u, of(`\(f a). (f a)`)) || n.Fuel != much.Fuel-9 || err != api.OK {
		t.Errorf("with a definition beneath: %s, %v, %d", show(u), n, err)
	}
	if u, _, err := norm.Norm(e, of(`\y. x`), much); !term.Equal(u, of(`\y. a`)) || err != api.OK {
		t.Errorf("with a definition above: %s, %d", show(u), err)
	}
}
