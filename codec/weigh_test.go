package codec

import (
	"testing"

	"touchstone/api"
)

// tree: a term of 2^n ends, in little memory.
func tree(n int, end api.Term) api.Term {
	for range n {
		end = api.Term{Kind: api.TermApp, Args: []api.Term{end, end}}
	}
	return end
}

// P6.1: what is written may have 2^31 - 1 bytes, and not one more. (To write so much would take a test too long.)
func TestWeighAtTheBound(t *testing.T) {
	great := tree(29, api.Term{N: 128})
	if n, ok := weigh(&great); n != mostBytes || !ok {
		t.Errorf("a term of 2^31 - 1 bytes: %d %v", n, ok)
	}
	greater := api.Term{Kind: api.TermPi, Args: []api.Term{tree(29, api.Term{N: 127}), tree(27, api.Term{N: 127})}}
	if n, ok := weigh(&greater); n != 3<<29+3<<27-1 || !ok {
		t.Errorf("a term of less: %d %v", n, ok)
	}
	over := api.Term{Kind: api.TermPi, Args: []api.Term{great, {}}}
	if n, ok := weigh(&over); n != 0 || ok {
		t.Errorf("a term of more than 2^31 - 1 bytes: %d %v", n, ok)
	}
}

// P6.1: what is weighed is what is written.
func TestWeighIsWritten(t *testing.T) {
	for n := range 20 {
		x := tree(n, api.Term{Kind: api.TermConst, Name: "name", Levels: make([]api.Level, n)})
		if size, ok := weigh(&x); size != len(Term(nil, x)) || !ok {
			t.Errorf("a tree %d deep: %d %v", n+1, size, ok)
		}
	}
}
