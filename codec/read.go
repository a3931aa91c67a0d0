package codec

import (
	"touchstone/api"
	"touchstone/octet"
)

// mostNumber is the greatest number that may stand anywhere.
const mostNumber = 1 << 30

// reader reads bytes on and on, up to their first fault. Behind it each number is 0 and each name is empty:
// what is being read ends there by itself, since what has the Kind 0 has no Args.
type reader struct {
	rest  []byte
	fault api.Errno
}

// take is what read makes of b's beginning, and how many bytes that has.
func take[T any](b []byte, read func(*reader) T) (x T, n int, e api.Errno) {
	r := reader{rest: b}
	got := read(&r)
	if r.fault != api.OK {
		return x, 0, r.fault
	}
	return got, len(b) - len(r.rest), api.OK
}

// several is what read tells, so many times.
func several[T any](times int, read func() T) (list []T) {
	for range times {
		list = append(list, read())
	}
	return list
}

// fail notes a fault, if it is the first one.
func (r *reader) fail(e api.Errno) {
	if r.fault == api.OK {
		r.fault = e
	}
}

// begin tells of a part, ahead of its bytes, whether it is one too many, or too deep.
func (r *reader) begin(isTooMany, isTooDeep bool) {
	switch {
	case isTooMany:
		r.fail(api.ErrLong)
	case isTooDeep:
		r.fail(api.ErrDeep)
	}
}

// wide reads a number, however great.
func (r *reader) wide() uint64 {
	if r.fault != api.OK {
		return 0
	}
	v, n, e := octet.TakeVar(r.rest)
	r.rest = r.rest[n:]
	r.fail(e)
	return v
}

// kind reads a number that says what follows, from first to last. Any other one is ErrForm, be it above mostNumber:
// of both errors the chapter names that one first.
func (r *reader) kind(first, last int) int {
	v := r.wide()
	if v < uint64(first) || v > uint64(last) {
		r.fail(api.ErrForm)
		return 0
	}
	return int(v)
}

func (r *reader) number() int {
	v := r.wide()
	if v > mostNumber {
		r.fail(api.ErrRange)
		return 0
	}
	return int(v)
}

// upTo reads a number; one above most is e.
func (r *reader) upTo(most int, e api.Errno) int {
	v := r.number()
	if v > most {
		r.fail(e)
		return 0
	}
	return v
}

func (r *reader) name() string {
	if r.fault != api.OK {
		return ""
	}
	s, n, e := octet.TakeText(r.rest, api.MaxName)
	r.rest = r.rest[n:]
	r.fail(e)
	return string(s)
}

func (r *reader) level() api.Level {
	parts := 0
	var readOn func(deep int) api.Level
	readOn = func(deep int) api.Level {
		r.begin(parts == api.MaxParts, deep > api.MaxLevel)
		parts++
		l := api.Level{Kind: r.kind(0, len(levelArgs)-1)}
		if l.Kind == api.LevelParam {
			l.N = r.upTo(api.MaxParams-1, api.ErrLevel)
		}
		l.Args = several(levelArgs[l.Kind], func() api.Level { return readOn(deep + 1) })
		return l
	}
	return readOn(1)
}

func (r *reader) term() api.Term {
	parts := 0
	var readOn func(deep int) api.Term
	readOn = func(deep int) api.Term {
		r.begin(parts == api.MaxSize, deep > api.MaxDepth)
		parts++
		t := api.Term{Kind: r.kind(0, len(termArgs)-1)}
		switch t.Kind {
		case api.TermVar:
			t.N = r.number()
		case api.TermSort:
			t.Levels = several(1, r.level)
		case api.TermConst:
			t.Name = r.name()
			t.Levels = several(r.upTo(api.MaxParams, api.ErrLevel), r.level)
		}
		t.Args = several(termArgs[t.Kind], func() api.Term { return readOn(deep + 1) })
		return t
	}
	return readOn(1)
}

func (r *reader) decl() (d api.Decl) {
	d.Kind = r.kind(api.DeclAxiom, api.DeclRec)
	d.Params = r.number()
	d.Count = r.number()
	d.Name = r.name()
	d.Family = r.name()
	d.Type = r.term()
	values := valueCount(d.Kind) // no other number may stand there
	if r.kind(values, values) == 1 {
		d.Value = r.term()
	}
	d.Ctors = several(r.upTo(api.MaxCtors, api.ErrLong), r.ctor)
	return d
}

// valueCount is how many Values a declaration of that kind has: the number that stands ahead of them.
func valueCount(kind int) int {
	if kind == api.DeclDef {
		return 1
	}
	return 0
}

func (r *reader) ctor() (c api.Ctor) {
	c.Name = r.name()
	c.Type = r.term()
	return c
}
