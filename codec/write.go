package codec

import (
	"slices"

	"touchstone/api"
	"touchstone/octet"
)

const (
	mostBytes = 1<<31 - 1 // of an answer
	mostLevel = 1 << 16   // parts of a level that is written: one that is handed in may have no end
)

// writer puts bytes behind others. What is not formed as its Kind asks has no bytes of its own, and spoils
// all of it: the bytes of something else must not stand in its place. What is greater than can be read is written.
type writer struct {
	out    []byte
	spoilt bool
}

// newWriter begins behind b. What is written goes to new memory: b's spare room is another's.
func newWriter(b []byte) *writer {
	return &writer{out: b[:len(b):len(b)]}
}

func (w *writer) spoil() {
	w.out, w.spoilt = nil, true
}

// hasRoom tells whether so many bytes more may be told.
func (w *writer) hasRoom(size int) bool {
	return !w.spoilt && size <= mostBytes-len(w.out)
}

func (w *writer) add(b []byte) {
	if !w.hasRoom(len(b)) {
		w.spoil()
		return
	}
	w.out = append(w.out, b...)
}

func (w *writer) number(v int) {
	if v < 0 {
		w.spoil()
		return
	}
	// octet's calls copy what they write behind: they are handed nothing, lest all of it be copied each time.
	w.add(octet.Var(nil, uint64(v)))
}

func (w *writer) text(s string) {
	w.add(octet.Text(nil, []byte(s)))
}

// isFormed tells whether l, whatever its Args are, is as its Kind asks.
func isFormed(l *api.Level) bool {
	return l.Kind >= 0 && l.Kind < len(levelArgs) && len(l.Args) == levelArgs[l.Kind] && (l.N == 0 || l.Kind == api.LevelParam)
}

func (w *writer) level(l *api.Level) {
	left := mostLevel
	var part func(l *api.Level)
	part = func(l *api.Level) {
		left--
		if w.spoilt || left < 0 || !isFormed(l) {
			w.spoil()
			return
		}
		w.number(l.Kind)
		if l.Kind == api.LevelParam {
			w.number(l.N)
		}
		for i := range l.Args {
			part(&l.Args[i])
		}
	}
	part(l)
}

// isWhole tells whether t, whatever its Args are, is as its Kind asks.
func isWhole(t *api.Term) bool {
	return t.Kind >= 0 && t.Kind < len(termArgs) && len(t.Args) == termArgs[t.Kind] && (t.N == 0 || t.Kind == api.TermVar) &&
		(t.Name == "" || t.Kind == api.TermConst) && hasItsLevels(t)
}

// hasItsLevels tells whether t has as many Levels as its Kind asks.
func hasItsLevels(t *api.Term) bool {
	switch t.Kind {
	case api.TermSort:
		return len(t.Levels) == 1
	case api.TermConst:
		return true
	}
	return len(t.Levels) == 0
}

// part writes t up to its Args.
func (w *writer) part(t *api.Term) {
	if w.spoilt || !isWhole(t) {
		w.spoil()
		return
	}
	w.number(t.Kind)
	switch t.Kind {
	case api.TermVar:
		w.number(t.N)
	case api.TermSort:
		w.level(&t.Levels[0])
	case api.TermConst:
		w.text(t.Name)
		w.number(len(t.Levels))
		for i := range t.Levels {
			w.level(&t.Levels[i])
		}
	}
}

// term writes t part by part. What is still to be written stands in a list: terms may be deeper than a stack of calls.
func (w *writer) term(t *api.Term) {
	if w.spoilt {
		return
	}
	size, ok := weigh(t)
	if !ok || !w.hasRoom(size) {
		w.spoil()
		return
	}
	w.out = slices.Grow(w.out, size)
	open := []*api.Term{t}
	for len(open) > 0 {
		last := len(open) - 1
		next := open[last]
		open = open[:last]
		w.part(next)
		for i := range slices.Backward(next.Args) {
			open = append(open, &next.Args[i])
		}
	}
}

func (w *writer) decl(d *api.Decl) {
	w.number(d.Kind)
	w.number(d.Params)
	w.number(d.Count)
	w.text(d.Name)
	w.text(d.Family)
	w.term(&d.Type)
	values := valueCount(d.Kind)
	w.number(values)
	if values == 1 {
		w.term(&d.Value)
	}
	w.number(len(d.Ctors))
	for i := range d.Ctors {
		w.text(d.Ctors[i].Name)
		w.term(&d.Ctors[i].Type)
	}
}
