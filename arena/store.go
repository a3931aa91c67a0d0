package arena

import (
	"maps"
	"slices"
)

// mostLevels is how many parts the Levels of a term that is told have: more have more bytes than an answer may have.
const mostLevels = 1 << 26

// store numbers things, from 0 on, as they come. It knows them by keys, which are alike just if the things are.
type store[K comparable] struct {
	numbers map[K]int
	keys    []K
	weights []int // how many parts of Levels a thing has, all below too; mostLevels and 1, if that is less
}

func (s *store[K]) size() int {
	return len(s.keys)
}

// add numbers a thing that is not there yet.
func (s *store[K]) add(key K, weight int) int {
	if s.numbers == nil {
		s.numbers = map[K]int{}
	}
	n := s.size()
	s.numbers[key] = n
	s.keys = append(s.keys, key)
	s.weights = append(s.weights, min(weight, mostLevels+1))
	return n
}

func (s *store[K]) copy() store[K] {
	return store[K]{maps.Clone(s.numbers), slices.Clone(s.keys), slices.Clone(s.weights)}
}

// addition is what would come to a store. The store does not change till it is kept.
type addition[K comparable] struct {
	old   *store[K]
	fresh store[K] // its numbers go on where those of old end
	weigh func(K) int
}

// number is the number of the thing with that key, a new one if there is none.
func (x *addition[K]) number(key K) int {
	if n, ok := x.old.numbers[key]; ok {
		return n
	}
	n, ok := x.fresh.numbers[key]
	if !ok {
		n = x.fresh.add(key, x.weigh(key))
	}
	return x.old.size() + n
}

// weight is the weight of the thing with that number.
func (x *addition[K]) weight(n int) int {
	if n < x.old.size() {
		return x.old.weights[n]
	}
	return x.fresh.weights[n-x.old.size()]
}

// keep brings all that is fresh to the store, where each thing has the number that was told of it.
func (x *addition[K]) keep() {
	for i, key := range x.fresh.keys {
		x.old.add(key, x.fresh.weights[i])
	}
}
