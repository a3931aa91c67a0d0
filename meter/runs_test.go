package meter

import (
	"math/rand"
	"testing"

	"touchstone/api"
)

// great: a level that is deeper than may be.
func great() (l api.Level) {
	for range api.MaxLevel {
		l = api.Level{Kind: api.LevelSucc, Args: []api.Level{l}}
	}
	return l
}

// hasGreat: is one of levels greater than may be? Here all but those are bare.
func hasGreat(levels []api.Level) bool {
	for i := range levels {
		if len(levels[i].Args) > 0 {
			return true
		}
	}
	return false
}

// P9.1: drawn lists in one memory: what is known of some of them says no more of others than it may.
func TestDrawnRuns(t *testing.T) {
	r := rand.New(rand.NewSource(35))
	told := map[bool]int{}
	for round := range 400 {
		memory := make([]api.Level, 1+r.Intn(3000))
		for range r.Intn(4) {
			memory[r.Intn(len(memory))] = great()
		}
		longest := 1 + r.Intn([]int{2, 10, 100, 3000}[round%4])
		k := runs{}
		for range 200 {
			from := r.Intn(len(memory) + 1)
			list := memory[from : from+min(r.Intn(longest+1), len(memory)-from)]
			want := !hasGreat(list)
			if k.hold(list) != want {
				t.Fatalf("round %d: hold of %d from %d on is not %v", round, len(list), from, want)
			}
			told[want]++
		}
	}
	if told[true] < 10000 || told[false] < 5000 {
		t.Errorf("what was drawn tells little: %v", told)
	}
}
