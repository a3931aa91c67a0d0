package text

import (
	"strings"

	"touchstone/api"
)

const mostDigits = 7 // of a number

// reader reads a text from its beginning up to its first fault.
type reader struct {
	text  string
	at    int       // the place of the byte that is read next
	fault api.Errno // the first one; nothing that is read behind it counts
	place int       // of that fault

	terms      map[byte]func(deep int) api.Term  // what each sign begins
	levels     map[byte]func(deep int) api.Level // likewise
	termParts  int                               // of the term, so far
	levelParts int                               // of the level that is read, so far
}

func newReader(s string) *reader {
	r := &reader{}
	r.terms = map[byte]func(int) api.Term{
		'#':  r.variable,
		'*':  r.sort,
		'(':  r.app,
		'\\': r.lam,
		'!':  r.pi,
		'=':  r.let,
	}
	for c := byte('a'); c <= 'z'; c++ {
		r.terms[c] = r.constant
		r.terms[c-'a'+'A'] = r.constant
	}
	r.levels = map[byte]func(int) api.Level{
		'0': r.zero,
		'S': r.succ,
		'M': r.greater,
		'I': r.imax,
		'p': r.param,
	}
	if len(s) > api.MaxText {
		r.fail(0, api.ErrLong)
		return r
	}
	r.text = s
	return r
}

// fail notes a fault, if it is the first one.
func (r *reader) fail(place int, e api.Errno) {
	if r.fault == api.OK {
		r.place, r.fault = place, e
	}
}

// byteAt is the byte at a place, or 0, which can stand nowhere, where there is none.
func (r *reader) byteAt(place int) byte {
	if place >= len(r.text) {
		return 0
	}
	return r.text[place]
}

// next is the byte that is read next.
func (r *reader) next() byte {
	return r.byteAt(r.at)
}

func (r *reader) skipBlanks() {
	for r.next() == ' ' || r.next() == '\n' {
		r.at++
	}
}

// take reads a sign, with blanks ahead of it.
func (r *reader) take(sign byte) {
	r.skipBlanks()
	if r.next() != sign {
		r.fail(r.at, api.ErrForm)
		return
	}
	r.at++
}

// ended tells whether there was no fault, and nothing but blanks stands behind.
func (r *reader) ended() bool {
	r.skipBlanks()
	if r.at < len(r.text) {
		r.fail(r.at, api.ErrForm)
	}
	return r.fault == api.OK
}

// term reads a term that is so deep.
func (r *reader) term(deep int) api.Term {
	r.skipBlanks()
	read, ok := r.terms[r.next()]
	switch {
	case !ok:
		r.fail(r.at, api.ErrForm)
	case r.termParts == api.MaxSize:
		r.fail(r.at, api.ErrLong)
	case deep > api.MaxDepth:
		r.fail(r.at, api.ErrDeep)
	}
	if r.fault != api.OK {
		return api.Term{}
	}
	r.termParts++
	return read(deep)
}

func (r *reader) variable(int) api.Term {
	r.at++
	return api.Term{Kind: api.TermVar, N: r.number()}
}

func (r *reader) sort(int) api.Term {
	r.at++
	return api.Term{Kind: api.TermSort, Levels: []api.Level{r.level()}}
}

func (r *reader) constant(int) api.Term {
	out := api.Term{Kind: api.TermConst, Name: r.name()}
	r.skipBlanks()
	if r.next() == '{' {
		out.Levels = r.levelList()
	}
	return out
}

func (r *reader) app(deep int) api.Term {
	r.at++
	args := []api.Term{r.term(deep + 1), r.term(deep + 1)}
	r.take(')')
	return api.Term{Kind: api.TermApp, Args: args}
}

func (r *reader) lam(deep int) api.Term {
	return api.Term{Kind: api.TermLam, Args: r.binder(deep)}
}

func (r *reader) pi(deep int) api.Term {
	return api.Term{Kind: api.TermPi, Args: r.binder(deep)}
}

// binder reads what stands behind the sign of a Lam or a Pi.
func (r *reader) binder(deep int) []api.Term {
	r.at++
	first := r.term(deep + 1)
	r.take('.')
	return []api.Term{first, r.term(deep + 1)}
}

func (r *reader) let(deep int) api.Term {
	r.at++
	first := r.term(deep + 1)
	r.take(':')
	second := r.term(deep + 1)
	r.take('.')
	return api.Term{Kind: api.TermLet, Args: []api.Term{first, second, r.term(deep + 1)}}
}

// number reads a number, which neither a letter nor another digit may follow.
func (r *reader) number() (n int) {
	first := r.at
	for isDigit(r.next()) {
		switch {
		case r.at > first && r.text[first] == '0':
			r.fail(r.at, api.ErrForm)
			return 0
		case r.at-first == mostDigits:
			r.fail(first, api.ErrLong)
			return 0
		}
		n = 10*n + int(r.next()-'0')
		r.at++
	}
	if r.at == first || isLetter(r.next()) {
		r.fail(r.at, api.ErrForm)
	}
	return n
}

// name reads a name, as long as it can be, in new memory: a name must not hold the whole text.
func (r *reader) name() string {
	first := r.at
	for r.isInName() {
		if r.at-first == api.MaxName {
			r.fail(first, api.ErrLong)
			return ""
		}
		r.at++
	}
	return strings.Clone(r.text[first:r.at])
}

// isInName tells whether the next byte goes on with a name.
func (r *reader) isInName() bool {
	c := r.next()
	return isLetter(c) || isDigit(c) || c == '_' || c == '.' && isLetter(r.byteAt(r.at+1))
}

// isName tells whether s as a whole is a name.
func isName(s string) bool {
	r := reader{text: s}
	return isLetter(r.next()) && r.name() == s
}

func isLetter(c byte) bool {
	return c >= 'a' && c <= 'z' || c >= 'A' && c <= 'Z'
}

func isDigit(c byte) bool {
	return c >= '0' && c <= '9'
}

// levelList reads the levels of a name, with their braces.
func (r *reader) levelList() (list []api.Level) {
	r.take('{')
	for r.fault == api.OK {
		r.skipBlanks()
		if _, ok := r.levels[r.next()]; ok && len(list) == api.MaxParams {
			r.fail(r.at, api.ErrLevel)
		}
		list = append(list, r.level())
		r.skipBlanks()
		if r.next() != ',' {
			break
		}
		r.at++
	}
	r.take('}')
	return list
}

// level reads a level that stands by itself.
func (r *reader) level() api.Level {
	r.levelParts = 0
	return r.levelPart(1)
}

// levelPart reads a level that is so deep in another one.
func (r *reader) levelPart(deep int) api.Level {
	r.skipBlanks()
	read, ok := r.levels[r.next()]
	switch {
	case !ok:
		r.fail(r.at, api.ErrForm)
	case r.levelParts == api.MaxParts:
		r.fail(r.at, api.ErrLong)
	case deep > api.MaxLevel:
		r.fail(r.at, api.ErrDeep)
	}
	if r.fault != api.OK {
		return api.Level{}
	}
	r.levelParts++
	r.at++
	return read(deep)
}

func (r *reader) zero(int) api.Level {
	return api.Level{Kind: api.LevelZero}
}

func (r *reader) succ(deep int) api.Level {
	return api.Level{Kind: api.LevelSucc, Args: []api.Level{r.levelPart(deep + 1)}}
}

func (r *reader) greater(deep int) api.Level {
	return api.Level{Kind: api.LevelMax, Args: r.two(deep)}
}

func (r *reader) imax(deep int) api.Level {
	return api.Level{Kind: api.LevelImax, Args: r.two(deep)}
}

// two reads both levels of a level that is so deep.
func (r *reader) two(deep int) []api.Level {
	return []api.Level{r.levelPart(deep + 1), r.levelPart(deep + 1)}
}

func (r *reader) param(int) api.Level {
	c := r.next()
	switch {
	case !isDigit(c):
		r.fail(r.at, api.ErrForm)
	case c-'0' >= api.MaxParams:
		r.fail(r.at, api.ErrLevel)
	}
	r.at++
	return api.Level{Kind: api.LevelParam, N: int(c - '0')}
}
