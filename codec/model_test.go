package codec_test

import (
	"bytes"
	"fmt"
	"math/rand"
	"slices"
	"strings"

	"touchstone/api"
	"touchstone/codec"
	"touchstone/octet"
)

const far = 1 << 30 // the greatest number

var (
	zero = api.Level{}
	u    = param(0)
	prop = sort(zero)
	c    = con("c")
)

func param(n int) api.Level { return api.Level{Kind: api.LevelParam, N: n} }

func level(kind int, args ...api.Level) api.Level { return api.Level{Kind: kind, Args: args} }

func succ(l api.Level) api.Level { return level(api.LevelSucc, l) }

func maxi(a, b api.Level) api.Level { return level(api.LevelMax, a, b) }

func v(n int) api.Term { return api.Term{Kind: api.TermVar, N: n} }

func sort(l api.Level) api.Term { return api.Term{Kind: api.TermSort, Levels: []api.Level{l}} }

func con(name string, levels ...api.Level) api.Term {
	return api.Term{Kind: api.TermConst, Name: name, Levels: levels}
}

func of(kind int, args ...api.Term) api.Term { return api.Term{Kind: kind, Args: args} }

func app(f, a api.Term) api.Term { return of(api.TermApp, f, a) }

// sameLevel, sameTerm, sameDecl: all fields are alike, nil as empty.
func sameLevel(a, b api.Level) bool {
	return a.Kind == b.Kind && a.N == b.N && slices.EqualFunc(a.Args, b.Args, sameLevel)
}

func sameTerm(a, b api.Term) bool {
	return a.Kind == b.Kind && a.N == b.N && a.Name == b.Name && slices.EqualFunc(a.Levels, b.Levels, sameLevel) && slices.EqualFunc(a.Args, b.Args, sameTerm)
}

func sameDecl(a, b api.Decl) bool {
	return a.Kind == b.Kind && a.Params == b.Params && a.Count == b.Count && a.Name == b.Name && a.Family == b.Family &&
		sameTerm(a.Type, b.Type) && sameTerm(a.Value, b.Value) && slices.EqualFunc(a.Ctors, b.Ctors, func(x, y api.Ctor) bool { return x.Name == y.Name && sameTerm(x.Type, y.Type) })
}

// What a piece of the bytes is: by this it is known how it can be wrong.
const (
	levelKind = iota
	levelParam
	termKind
	number // a Var's, Params, Count
	name
	levelCount
	declKind
	noValue
	oneValue
	ctorCount
)

// piece: a number, or a text, as bytes.
type piece struct {
	what  int
	bytes []byte
}

func num(what, n int) piece { return piece{what, octet.Var(nil, uint64(n))} }

func text(s string) piece { return piece{name, octet.Text(nil, []byte(s))} }

// levelPieces, termPieces, declPieces: what the chapter's section 'Words' says, piece by piece.
func levelPieces(l api.Level) []piece {
	all := []piece{num(levelKind, l.Kind)}
	if l.Kind == api.LevelParam {
		all = append(all, num(levelParam, l.N))
	}
	for _, a := range l.Args {
		all = append(all, levelPieces(a)...)
	}
	return all
}

func termPieces(t api.Term) []piece {
	all := []piece{num(termKind, t.Kind)}
	switch t.Kind {
	case api.TermVar:
		all = append(all, num(number, t.N))
	case api.TermConst:
		all = append(all, text(t.Name), num(levelCount, len(t.Levels)))
	}
	for _, l := range t.Levels {
		all = append(all, levelPieces(l)...)
	}
	for _, a := range t.Args {
		all = append(all, termPieces(a)...)
	}
	return all
}

func declPieces(d api.Decl) []piece {
	all := []piece{num(declKind, d.Kind), num(number, d.Params), num(number, d.Count), text(d.Name), text(d.Family)}
	all = append(all, termPieces(d.Type)...)
	if d.Kind == api.DeclDef {
		all = append(all, num(oneValue, 1))
		all = append(all, termPieces(d.Value)...)
	} else {
		all = append(all, num(noValue, 0))
	}
	all = append(all, num(ctorCount, len(d.Ctors)))
	for _, ctor := range d.Ctors {
		all = append(all, text(ctor.Name))
		all = append(all, termPieces(ctor.Type)...)
	}
	return all
}

func join(pieces []piece) (b []byte) {
	for _, p := range pieces {
		b = append(b, p.bytes...)
	}
	return b
}

// face: what the package, and the model, do with things of one type.
type face[T any] struct {
	name   string
	write  func([]byte, T) []byte
	take   func([]byte) (T, int, api.Errno)
	same   func(T, T) bool
	pieces func(T) []piece
}

var (
	levels = face[api.Level]{"level", codec.Level, codec.TakeLevel, sameLevel, levelPieces}
	terms  = face[api.Term]{"term", codec.Term, codec.TakeTerm, sameTerm, termPieces}
	decls  = face[api.Decl]{"declaration", codec.Decl, codec.TakeDecl, sameDecl, declPieces}
)

// fails: take tells e of b, and zero values beside it; b stays as it was.
func (f face[T]) fails(b []byte, want api.Errno) (why string) {
	var none T
	before := bytes.Clone(b)
	x, n, e := f.take(b)
	switch {
	case e != want:
		return fmt.Sprintf("a %s of %s: error %d, not %d", f.name, show(b), e, want)
	case n != 0 || !f.same(x, none):
		return fmt.Sprintf("a %s of %s: beside error %d: %v, %d bytes", f.name, show(b), e, x, n)
	case !bytes.Equal(b, before):
		return fmt.Sprintf("a %s of %s: the bytes changed", f.name, show(b))
	}
	return ""
}

// reads: take tells want of b's beginning, with n bytes.
func (f face[T]) reads(b []byte, want T, n int) (why string) {
	got, m, e := f.take(b)
	if e != api.OK || m != n || !f.same(got, want) {
		return fmt.Sprintf("a %s of %s: %v, %d bytes of %d, error %d", f.name, show(b), got, m, n, e)
	}
	return ""
}

// show: bytes, for what a test tells.
func show(b []byte) string {
	if len(b) > 200 {
		return fmt.Sprint(b[:100], " .. ", b[len(b)-100:])
	}
	return fmt.Sprint(b)
}

func chanceLevel(r *rand.Rand, deep int) api.Level {
	switch k := r.Intn(6); {
	case deep <= 1 || k == 0:
		return []api.Level{zero, u, param(1), param(2), param(3)}[r.Intn(5)]
	case k <= 2:
		return succ(chanceLevel(r, deep-1))
	default:
		return level(api.LevelMax+k%2, chanceLevel(r, deep-1), chanceLevel(r, deep-1))
	}
}

func chanceLevels(r *rand.Rand) []api.Level {
	list := make([]api.Level, r.Intn(api.MaxParams+1))
	for i := range list {
		list[i] = chanceLevel(r, 4)
	}
	return list
}

// chanceName: a Name is whatever bytes, none of them too.
func chanceName(r *rand.Rand) string {
	b := make([]byte, r.Intn(api.MaxName+1))
	r.Read(b)
	return string(b)
}

func chanceTerm(r *rand.Rand, deep int) api.Term {
	k := r.Intn(10)
	switch {
	case k < 2:
		return v([]int{0, 1, 127, 128, 300, far - 1, far}[r.Intn(7)])
	case k == 2:
		return sort(chanceLevel(r, 5))
	case deep <= 1 || k == 3:
		return con(chanceName(r), chanceLevels(r)...)
	case k < 9:
		return of(api.TermApp+k%3, chanceTerm(r, deep-1), chanceTerm(r, deep-1))
	}
	return of(api.TermLet, chanceTerm(r, deep-1), chanceTerm(r, deep-1), chanceTerm(r, deep-1))
}

func chanceDecl(r *rand.Rand) api.Decl {
	numbers := []int{0, 1, 4, 127, 128, 70000, far}
	d := api.Decl{Kind: 1 + r.Intn(5), Params: numbers[r.Intn(7)], Count: numbers[r.Intn(7)], Name: chanceName(r), Family: chanceName(r), Type: chanceTerm(r, 4)}
	if d.Kind == api.DeclDef {
		d.Value = chanceTerm(r, 4)
	}
	for range r.Intn(api.MaxCtors + 1) {
		d.Ctors = append(d.Ctors, api.Ctor{Name: chanceName(r), Type: chanceTerm(r, 3)})
	}
	return d
}

// levelSamples, termSamples, declSamples: things of each kind, at their edges, and others as they come. All can be read.
func levelSamples() []api.Level {
	all := []api.Level{zero, u, param(3), succ(zero), maxi(zero, u), level(api.LevelImax, succ(u), param(2)), tall(api.MaxLevel, zero), tall(api.MaxLevel, param(3)), bushyLevel(63, u), succ(bushyLevel(63, zero))}
	r := rand.New(rand.NewSource(61))
	for range 200 {
		all = append(all, chanceLevel(r, 5))
	}
	return all
}

func termSamples() []api.Term {
	full := []api.Level{u, param(1), param(2), succ(bushyLevel(63, zero))}
	all := []api.Term{v(0), v(far), prop, sort(tall(api.MaxLevel, u)), c, con(""), con(strings.Repeat("n", api.MaxName)), con("c", full...),
		app(c, v(1)), of(api.TermLam, prop, v(0)), of(api.TermPi, prop, v(0)), of(api.TermLet, prop, c, con("d", u)), app(con("c", full...), con("d", full...))}
	r := rand.New(rand.NewSource(62))
	for range 200 {
		all = append(all, chanceTerm(r, 5))
	}
	return all
}

func declSamples() []api.Decl {
	five := []api.Ctor{{}, {Name: "a", Type: prop}, {Name: strings.Repeat("n", api.MaxName), Type: app(c, c)}, {Name: "d"}, {Name: "e", Type: con("x", u)}}
	all := []api.Decl{{Kind: api.DeclAxiom}, {Kind: api.DeclAxiom, Params: 2, Name: "a", Type: sort(param(1))}, {Kind: api.DeclDef}, {Kind: api.DeclDef, Params: 4, Count: far, Name: "d", Type: sort(succ(zero)), Value: prop},
		{Kind: api.DeclFamily, Count: 1, Name: "F", Type: prop, Ctors: five[:1]}, {Kind: api.DeclFamily, Params: far, Name: "F", Type: prop, Ctors: five}, {Kind: api.DeclCtor, Count: 3, Name: "k", Family: "F", Type: c}, {Kind: api.DeclRec, Name: "F.rec", Family: strings.Repeat("F", api.MaxName), Type: c}}
	r := rand.New(rand.NewSource(63))
	for range 100 {
		all = append(all, chanceDecl(r))
	}
	return all
}

// tall: a level that is so deep, with end at its end.
func tall(deep int, end api.Level) api.Level {
	for range deep - 1 {
		end = succ(end)
	}
	return end
}

// bushyLevel: a level of so many parts (an odd number), as flat as can be.
func bushyLevel(parts int, leaf api.Level) api.Level {
	if parts <= 1 {
		return leaf
	}
	left := (parts-1)/2 - (parts-1)/2%2 + 1
	if left >= parts-1 {
		left = parts - 2
	}
	return maxi(bushyLevel(left, leaf), bushyLevel(parts-1-left, leaf))
}

// bushy: likewise of terms.
func bushy(kind, parts int, leaf api.Term) api.Term {
	if parts <= 1 {
		return leaf
	}
	left := (parts-1)/2 - (parts-1)/2%2 + 1
	if left >= parts-1 {
		left = parts - 2
	}
	return of(kind, bushy(kind, left, leaf), bushy(kind, parts-1-left, leaf))
}

// leaning: a term that is so deep by the Args[side] of each part.
func leaning(kind, side, deep int, end api.Term) api.Term {
	for range deep - 1 {
		args := make([]api.Term, []int{0, 0, 0, 2, 2, 2, 3}[kind])
		args[side] = end
		end = of(kind, args...)
	}
	return end
}
