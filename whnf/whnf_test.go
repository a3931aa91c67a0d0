package whnf_test

import (
	"math"
	"testing"

	"touchstone/api"
	"touchstone/term"
	"touchstone/whnf"
)

var ways = []step{
	{`(\a. #0 b)`, `b`, 1},
	{`=a:b. #0`, `b`, 1},
	{`((\a. \b. (#1 #0) f) #3)`, `(f #3)`, 2},
	{`((\a. \b. (#1 #0) \a. (#0 #5)) #3)`, `(#3 #4)`, 3},
	{`=a:f. =b:#0. (#0 (#1 #3))`, `(f (f #1))`, 2},
	{`((id{S0} Nat) a)`, `a`, 3},
	{`(((id{S0} Nat) \a. #0) b)`, `b`, 4},
	{`((plus a) zero)`, `a`, 4},
	{`((plus zero) a)`, `((((Nat.rec{S0} \Nat. Nat) zero) \Nat. \Nat. (suc #0)) a)`, 3},
	{`((plus a) two)`, `(suc ((((Nat.rec{S0} \Nat. Nat) a) \Nat. \Nat. (suc #0)) (suc zero)))`, 7},
	{`((plus a) ((plus b) two))`, `(suc ((((Nat.rec{S0} \Nat. Nat) a) \Nat. \Nat. (suc #0)) ((((Nat.rec{S0} \Nat. Nat) b) \Nat. \Nat. (suc #0)) (suc zero))))`, 13},
	{`((((Nat.rec{0} C) a) \a. \a. #0) two)`, `a`, 8},
	{`((((Nat.rec{0} C) a) \a. \a. #0) (suc (suc f)))`, `((((Nat.rec{0} C) a) \a. \a. #0) f)`, 6},
	{`(((((Nat.rec{0} C) \a. #0) b) zero) two)`, `(suc (suc zero))`, 3},
	{`\a. (\a. #0 b)`, `\a. (\a. #0 b)`, 0},
	{`(#0 two)`, `(#0 two)`, 0},
	{`two`, `(suc (suc zero))`, 1},
	{`(\a. \a. (two #1) b)`, `\a. (two b)`, 1},
}

// P13.2: no step, one and many: what they come to, how much fuel they take, and that with less it is ErrFuel.
func TestWhnf(t *testing.T) {
	e := common()
	for _, x := range ways {
		u, n, err := whnf.Whnf(e, of(x.from), much)
		if !term.Equal(u, of(x.to)) || n != (api.Meter{Fuel: much.Fuel - x.fuel, Cells: much.Cells}) || err != api.OK {
			t.Errorf("Whnf of %s: %s, %v, %d, want %s, %d steps", x.from, show(u), n, err, x.to, x.fuel)
		}
		for fuel := range x.fuel + 1 {
			u, n, err := whnf.Whnf(e, of(x.from), api.Meter{Fuel: fuel, Cells: 1000})
			switch {
			case n != api.Meter{Cells: 1000}:
				t.Errorf("Whnf of %s with fuel %d: %v is left", x.from, fuel, n)
			case fuel < x.fuel && (err != api.ErrFuel || !term.Equal(u, api.Term{})):
				t.Errorf("Whnf of %s with fuel %d: %s, %d, want ErrFuel", x.from, fuel, show(u), err)
			case fuel == x.fuel && (err != api.OK || !term.Equal(u, of(x.to))):
				t.Errorf("Whnf of %s with fuel %d: %s, %d, want %s", x.from, fuel, show(u), err, x.to)
			}
		}
		if u, n, err := whnf.Whnf(e, of(x.to), api.Meter{}); !term.Equal(u, of(x.to)) || n != (api.Meter{}) || err != api.OK {
			t.Errorf("Whnf of %s: %s, %v, %d, want itself", x.to, show(u), n, err)
		}
	}
}

// P13.2: what is made on the way must fit, at each step, not at the last one alone.
func TestWhnfCells(t *testing.T) {
	e := common()
	const from = `(\a. (\a. b (((#0 #0) #0) #0)) c)` // on the way: (\a. b (((c c) c) c)), 11 parts
	for cells := range 20 {
		u, n, err := whnf.Whnf(e, of(from), api.Meter{Fuel: 5, Cells: cells})
		if cells < 11 && (err != api.ErrCells || n != (api.Meter{Fuel: 4, Cells: cells}) || !term.Equal(u, api.Term{})) {
			t.Errorf("with %d cells: %s, %v, %d, want ErrCells behind one step", cells, show(u), n, err)
		}
		if cells >= 11 && (err != api.OK || n != (api.Meter{Fuel: 3, Cells: cells}) || !term.Equal(u, of(`b`))) {
			t.Errorf("with %d cells: %s, %v, %d, want b", cells, show(u), n, err)
		}
	}
	for fuel := range 20 {
		// From 1 part to 3, to 7, to 15 and so on: the fifth is the first that has more than 40.
		_, n, err := whnf.Whnf(e, of(`(grow{0} a)`), api.Meter{Fuel: fuel, Cells: 40})
		if want := map[bool]api.Errno{true: api.ErrFuel, false: api.ErrCells}[fuel < 10]; err != want || n.Fuel != max(fuel-10, 0) {
			t.Errorf("what grows, with fuel %d: %v, %d, want %d", fuel, n, err, want)
		}
	}
}

// P13.2: a Level that grows at each step is ErrCells once it is too great.
func TestWhnfLevelsGrow(t *testing.T) {
	e := with(def("up", 1, `up{Sp0}`), def("wide", 1, `wide{Mp0p0}`))
	for _, x := range []struct {
		from  string
		steps int
	}{{`up{0}`, 32}, {`(up{SSp0} a)`, 30}, {`wide{0}`, 6}, {`(wide{Sp0} a)`, 5}} {
		u, n, err := whnf.Whnf(e, of(x.from), much)
		if err != api.ErrCells || n != (api.Meter{Fuel: much.Fuel - x.steps, Cells: much.Cells}) || !term.Equal(u, api.Term{}) {
			t.Errorf("Whnf of %s: %s, %v, %d, want ErrCells behind %d steps", x.from, show(u), n, err, x.steps)
		}
	}
}

// P13.2: what has no end but for its fuel.
func TestWhnfWithoutEnd(t *testing.T) {
	e := common()
	for _, s := range []string{
		`loop`, `(loop a)`, `(\a. (#0 #0) \a. (#0 #0))`, `=a:\a. (#0 #0). (#0 #0)`, `((Empty.rec{0} C) loop)`, `sink`, `(sink sink)`,
		`(\a. ((Empty.rec{0} C) (#0 #0)) \a. ((Empty.rec{0} C) (#0 #0)))`, `((((Nat.rec{0} C) a) b) ((((Nat.rec{0} C) loop) b) zero))`,
	} {
		for _, fuel := range []int{0, 1, 2, 1000, 200000, api.MaxFuel, math.MaxInt} {
			u, n, err := whnf.Whnf(e, of(s), api.Meter{Fuel: fuel, Cells: 100})
			if err != api.ErrFuel || n != (api.Meter{Cells: 100}) || !term.Equal(u, api.Term{}) {
				t.Errorf("Whnf of %s with fuel %d: %s, %v, %d, want ErrFuel", s, fuel, show(u), n, err)
			}
		}
	}
}

// P13.2: Whnf is Once, again and again.
func TestWhnfIsOnceAgain(t *testing.T) {
	e := common()
	for _, list := range append(allSteps, ways) {
		for _, x := range list {
			m := api.Meter{Fuel: 100, Cells: 100}
			u, n, err := whnf.Whnf(e, of(x.from), m)
			at, did, wantErr := of(x.from), true, api.OK
			for did && wantErr == api.OK {
				at, did, m, wantErr = whnf.Once(e, at, m)
			}
			if !term.Equal(u, at) || n != m || err != wantErr {
				t.Errorf("Whnf of %s: %s, %v, %d, want %s, %v, %d", x.from, show(u), n, err, show(at), m, wantErr)
			}
		}
	}
}

// P13.1, P13.2: more of everything than New tells is as good.
func TestMoreThanMostMeters(t *testing.T) {
	e := common()
	m := api.Meter{Fuel: math.MaxInt, Cells: math.MaxInt}
	for _, x := range ways {
		if u, n, err := whnf.Whnf(e, of(x.from), m); !term.Equal(u, of(x.to)) || n != (api.Meter{Fuel: math.MaxInt - x.fuel, Cells: math.MaxInt}) || err != api.OK {
			t.Errorf("Whnf of %s: %s, %v, %d, want %s", x.from, show(u), n, err, x.to)
		}
	}
}
