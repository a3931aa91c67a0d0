package meter_test

import (
	"math"
	"testing"

	"touchstone/api"
	"touchstone/meter"
)

// clamped: numbers that are handed to New, and what becomes of them where most is the greatest.
func clamped(most int) map[int]int {
	return map[int]int{
		math.MinInt: 0, math.MinInt + 1: 0, -most - 1: 0, -most: 0, -1 << 32: 0, -2: 0, -1: 0,
		0: 0, 1: 1, 2: 2, most / 2: most / 2, most - 1: most - 1, most: most,
		most + 1: most, 2 * most: most, 1 << 31: most, 1 << 32: most, 1<<32 + 1: most, math.MaxInt - 1: most, math.MaxInt: most,
	}
}

// P9.1: New has both numbers from 0 on, up to the greatest, each whatever the other one is.
func TestNew(t *testing.T) {
	for fuel, wantFuel := range clamped(api.MaxFuel) {
		for cells, wantCells := range clamped(api.MaxCells) {
			want := api.Meter{Fuel: wantFuel, Cells: wantCells}
			if m := meter.New(fuel, cells); m != want {
				t.Errorf("New(%d, %d): %v, want %v", fuel, cells, m, want)
			}
		}
	}
}

// anyCells: cells that Step and Less have nothing to do with.
var anyCells = []int{math.MinInt, -1 << 32, -7, -1, 0, 1, 5, api.MaxCells, api.MaxCells + 1, math.MaxInt}

// P9.1: Step of fuel above 0 is one less; cells stay as they are, also those that may not be.
func TestStep(t *testing.T) {
	for _, fuel := range []int{1, 2, 3, 1000, api.MaxFuel - 1, api.MaxFuel, api.MaxFuel + 1, 1 << 32, math.MaxInt} {
		for _, cells := range anyCells {
			m, e := meter.Step(api.Meter{Fuel: fuel, Cells: cells})
			if want := (api.Meter{Fuel: fuel - 1, Cells: cells}); m != want || e != api.OK {
				t.Errorf("Step of %d, %d: %v, error %d, want %v", fuel, cells, m, e, want)
			}
		}
	}
}

// P9.1: Step of fuel that is not above 0 is ErrFuel, and the meter as it is (R2: but for meters).
func TestStepOfNone(t *testing.T) {
	for _, fuel := range []int{0, -1, -2, -api.MaxFuel, -1 << 32, math.MinInt + 1, math.MinInt} {
		for _, cells := range anyCells {
			m := api.Meter{Fuel: fuel, Cells: cells}
			if n, e := meter.Step(m); n != m || e != api.ErrFuel {
				t.Errorf("Step of %v: %v, error %d", m, n, e)
			}
		}
	}
}

// P9.1: as many steps as there is fuel are taken, and not one more.
func TestSteps(t *testing.T) {
	for fuel := range 50 {
		m := meter.New(fuel, 9)
		taken := 0
		for {
			n, e := meter.Step(m)
			if e != api.OK {
				break
			}
			taken++
			if less := meter.Less(meter.New(fuel, 9), taken); n != less {
				t.Fatalf("%d steps of %d: %v, Less has %v", taken, fuel, n, less)
			}
			m = n
		}
		if taken != fuel || m != (api.Meter{Cells: 9}) {
			t.Errorf("%d steps of %d, left is %v", taken, fuel, m)
		}
	}
}

// P9.1: Less is fuel less steps, at least 0; steps, and fuel, below 0 are as 0; cells stay as they are.
func TestLess(t *testing.T) {
	for _, x := range []struct{ fuel, steps, want int }{
		{9, 4, 5}, {9, 1, 8}, {9, 8, 1}, {1, 1, 0}, {2, 1, 1},
		{9, 0, 9}, {0, 0, 0}, {9, 9, 0}, {9, 10, 0}, {0, 1, 0}, {9, 1 << 32, 0}, {9, 1<<32 + 4, 0}, {9, math.MaxInt, 0}, {9, math.MaxInt - 1, 0}, {0, math.MaxInt, 0},
		{9, -1, 9}, {9, -9, 9}, {9, -1 << 32, 9}, {9, math.MinInt, 9}, {9, math.MinInt + 1, 9}, {0, -1, 0}, {0, math.MinInt, 0},
		{-3, 1, 0}, {-3, 0, 0}, {-3, -1, 0}, {-3, -4, 0}, {-3, -3, 0}, {-3, math.MaxInt, 0}, {-3, math.MinInt, 0},
		{math.MinInt, 0, 0}, {math.MinInt, 1, 0}, {math.MinInt, math.MaxInt, 0}, {math.MinInt, math.MinInt, 0}, {math.MinInt + 1, -1, 0},
		{api.MaxFuel, 0, api.MaxFuel}, {api.MaxFuel, 1, api.MaxFuel - 1}, {api.MaxFuel, api.MaxFuel - 1, 1}, {api.MaxFuel, api.MaxFuel, 0}, {api.MaxFuel, api.MaxFuel + 1, 0},
		{api.MaxFuel + 5, 0, api.MaxFuel + 5}, {api.MaxFuel + 5, 2, api.MaxFuel + 3}, {1 << 40, 1 << 39, 1 << 39},
		{math.MaxInt, 0, math.MaxInt}, {math.MaxInt, -1, math.MaxInt}, {math.MaxInt, math.MinInt, math.MaxInt}, {math.MaxInt, 1, math.MaxInt - 1}, {math.MaxInt, math.MaxInt - 1, 1}, {math.MaxInt, math.MaxInt, 0},
	} {
		for _, cells := range anyCells {
			want := api.Meter{Fuel: x.want, Cells: cells}
			if m := meter.Less(api.Meter{Fuel: x.fuel, Cells: cells}, x.steps); m != want {
				t.Errorf("Less of %d, %d by %d: %v, want %v", x.fuel, cells, x.steps, m, want)
			}
		}
	}
}
