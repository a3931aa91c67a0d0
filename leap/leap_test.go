package leap

import (
	"math/rand"
	"testing"
)

// piece: a list of a memory.
type piece struct {
	memory []int
	asked  int
}

func (p *piece) place(i int) *int { return &p.memory[i] }

func (p *piece) holds(i int) bool {
	p.asked++
	return p.memory[i] == 0
}

// Drawn lists in one memory: what is known of some of them says no more of others than it may.
func TestDrawnRuns(t *testing.T) {
	r := rand.New(rand.NewSource(35))
	told := map[bool]int{}
	for round := range 400 {
		memory := make([]int, 1+r.Intn(3000))
		for range r.Intn(4) {
			memory[r.Intn(len(memory))] = 1
		}
		longest := 1 + r.Intn([]int{2, 10, 100, 3000}[round%4])
		var k Runs[*int]
		for range 200 {
			from := r.Intn(len(memory) + 1)
			p := piece{memory: memory[from : from+min(r.Intn(longest+1), len(memory)-from)]}
			want := true
			for _, n := range p.memory {
				want = want && n == 0
			}
			if k.Hold(len(p.memory), p.place, p.holds) != want {
				t.Fatalf("round %d: Hold of %d from %d on is not %v", round, len(p.memory), from, want)
			}
			told[want]++
		}
		for l, n := range k.ahead {
			if n < 1 || *l != 0 {
				t.Fatalf("round %d: a note of %d", round, n)
			}
		}
	}
	if told[true] < 10000 || told[false] < 5000 {
		t.Errorf("what was drawn tells little: %v", told)
	}
}

// Notes are few: far fewer than the places that they tell of, of which each is asked for once or twice,
// whether all of them hold or one in their midst does not.
func TestFewRuns(t *testing.T) {
	for _, bad := range []int{-1, 1 << 15} {
		memory := make([]int, 1<<16)
		if bad >= 0 {
			memory[bad] = 1
		}
		var k Runs[*int]
		asked := 0
		for i := range 1000 {
			p := piece{memory: memory[i : len(memory)-i]}
			if k.Hold(len(p.memory), p.place, p.holds) != (bad < 0) {
				t.Fatalf("with %d not to hold, list %d", bad, i)
			}
			asked += p.asked
		}
		if most := 1000 + 2*len(memory)/mostBetween; k.Len() > most {
			t.Errorf("with %d not to hold: %d notes; want at most %d", bad, k.Len(), most)
		}
		if most := len(memory) + 1000*(mostBetween+1); asked > most {
			t.Errorf("with %d not to hold: %d places were asked for; want at most %d", bad, asked, most)
		}
	}
}
