package codec

import "touchstone/api"

// mostUnnoted is how many bytes of a term are weighed without a note of where its parts lie: notes cost more than the parts.
const mostUnnoted = 1 << 18

// scale weighs a term ahead of its being written: one that is handed in may have no end,
// or lie so that little memory holds more parts than can be written.
type scale struct {
	own   writer       // the bytes of the part that is weighed
	total int          // bytes of all parts so far
	open  []span       // each below the one ahead of it: a list, since terms may be deeper than a stack of calls
	sizes map[list]int // bytes of lists; 0, as long as they are being weighed
}

// span is a list of terms that is being weighed.
type span struct {
	terms []api.Term
	next  int // which of the terms comes next
	start int // the total ahead of them
}

// list is a list of terms, by where it lies.
type list struct {
	first  *api.Term
	length int
}

// weigh is how many bytes t has. Not ok: it has none, or more than may be told.
func weigh(t *api.Term) (size int, ok bool) {
	s := scale{}
	s.enter([]api.Term{*t})
	for len(s.open) > 0 {
		if !s.step() {
			return 0, false
		}
	}
	return s.total, true
}

// step weighs one part more, or ends a list. It tells whether t may still have bytes.
func (s *scale) step() bool {
	top := &s.open[len(s.open)-1]
	if top.next == len(top.terms) {
		s.leave()
		return true
	}
	t := &top.terms[top.next]
	top.next++
	s.own.out = s.own.out[:0]
	s.own.part(t)
	return !s.own.spoilt && s.grow(len(s.own.out)) && s.enter(t.Args)
}

// grow tells whether there may be so many bytes more.
func (s *scale) grow(size int) bool {
	s.total += size
	return s.total <= mostBytes
}

// enter begins to weigh terms, unless it is known how many bytes they have.
func (s *scale) enter(terms []api.Term) bool {
	if len(terms) == 0 {
		return true
	}
	at := list{&terms[0], len(terms)}
	size, known := s.sizes[at]
	if known {
		// What stands below itself has no end.
		return size > 0 && s.grow(size)
	}
	s.note(at, 0)
	s.open = append(s.open, span{terms: terms, start: s.total})
	return true
}

// leave ends the list that was entered last.
func (s *scale) leave() {
	last := len(s.open) - 1
	ended := s.open[last]
	s.open = s.open[:last]
	s.note(list{&ended.terms[0], len(ended.terms)}, s.total-ended.start)
}

// note keeps how many bytes a list has, once so much was weighed that it pays.
func (s *scale) note(at list, size int) {
	if s.total <= mostUnnoted {
		return
	}
	if s.sizes == nil {
		s.sizes = map[list]int{}
	}
	s.sizes[at] = size
}
