package codec_test

import (
	"bytes"
	"slices"
	"strings"
	"testing"

	"touchstone/api"
	"touchstone/codec"
)

// P6.1: bytes as the chapter's words say them, written out.
func TestLevelBytes(t *testing.T) {
	for _, x := range []struct {
		l    api.Level
		want []byte
	}{
		{zero, []byte{0}},
		{succ(zero), []byte{1, 0}},
		{maxi(u, succ(zero)), []byte{2, 4, 0, 1, 0}},
		{level(api.LevelImax, zero, param(3)), []byte{3, 0, 4, 3}},
		{param(2), []byte{4, 2}},
	} {
		checkBytes(t, levels, x.l, x.want)
	}
}

func TestTermBytes(t *testing.T) {
	for _, x := range []struct {
		t    api.Term
		want []byte
	}{
		{prop, []byte{1, 0}},
		{of(api.TermPi, prop, v(0)), []byte{5, 1, 0, 0, 0}},
		{api.Term{}, []byte{0, 0}},
		{v(300), []byte{0, 172, 2}},
		{v(far), []byte{0, 128, 128, 128, 128, 4}},
		{sort(maxi(u, succ(zero))), []byte{1, 2, 4, 0, 1, 0}},
		{c, []byte{2, 1, 'c', 0}},
		{con(""), []byte{2, 0, 0}},
		{con("ab", u, succ(zero)), []byte{2, 2, 'a', 'b', 2, 4, 0, 1, 0}},
		{app(c, v(1)), []byte{3, 2, 1, 'c', 0, 0, 1}},
		{of(api.TermLam, prop, c), []byte{4, 1, 0, 2, 1, 'c', 0}},
		{of(api.TermLet, v(1), v(2), app(v(3), v(4))), []byte{6, 0, 1, 0, 2, 3, 0, 3, 0, 4}},
	} {
		checkBytes(t, terms, x.t, x.want)
	}
}

func TestDeclBytes(t *testing.T) {
	for _, x := range []struct {
		d    api.Decl
		want []byte
	}{
		{api.Decl{Kind: api.DeclAxiom, Params: 2, Name: "a", Type: prop}, []byte{1, 2, 0, 1, 'a', 0, 1, 0, 0, 0}},
		{api.Decl{Kind: api.DeclDef, Params: 1, Name: "d", Type: prop, Value: c}, []byte{2, 1, 0, 1, 'd', 0, 1, 0, 1, 2, 1, 'c', 0, 0}},
		{api.Decl{Kind: api.DeclDef}, []byte{2, 0, 0, 0, 0, 0, 0, 1, 0, 0, 0}},
		{api.Decl{Kind: api.DeclFamily, Count: 300, Name: "F", Type: prop, Ctors: []api.Ctor{{Name: "k", Type: c}, {Name: "lm", Type: v(5)}}}, []byte{3, 0, 172, 2, 1, 'F', 0, 1, 0, 0, 2, 1, 'k', 2, 1, 'c', 0, 2, 'l', 'm', 0, 5}},
		{api.Decl{Kind: api.DeclCtor, Count: 1, Name: "k", Family: "F", Type: v(7)}, []byte{4, 0, 1, 1, 'k', 1, 'F', 0, 7, 0, 0}},
		{api.Decl{Kind: api.DeclRec, Name: "r", Family: "FF"}, []byte{5, 0, 0, 1, 'r', 2, 'F', 'F', 0, 0, 0, 0}},
	} {
		checkBytes(t, decls, x.d, x.want)
	}
}

// checkBytes: x has just these bytes, behind others too, and is read from them.
func checkBytes[T any](t *testing.T, f face[T], x T, want []byte) {
	t.Helper()
	if got := f.write(nil, x); !bytes.Equal(got, want) {
		t.Errorf("%s %v: %s, not %s", f.name, x, show(got), show(want))
	}
	if got := f.write([]byte{}, x); !bytes.Equal(got, want) {
		t.Errorf("%s %v behind an empty list: %s, not %s", f.name, x, show(got), show(want))
	}
	if got := f.write([]byte{9, 200}, x); !bytes.Equal(got, slices.Concat([]byte{9, 200}, want)) {
		t.Errorf("%s %v behind 9 200: %s, not %s", f.name, x, show(got), show(want))
	}
	if why := f.reads(want, x, len(want)); why != "" {
		t.Error(why)
	}
}

// P6.1: things of each kind have the bytes that the model says.
func TestSamplesBytes(t *testing.T) {
	checkAllBytes(t, levels, levelSamples())
	checkAllBytes(t, terms, termSamples())
	checkAllBytes(t, decls, declSamples())
}

func checkAllBytes[T any](t *testing.T, f face[T], all []T) {
	for _, x := range all {
		checkBytes(t, f, x, join(f.pieces(x)))
	}
}

// R3: what is handed in, its spare room too, stays as it was, and shares no memory with what is told.
func TestFresh(t *testing.T) {
	checkAllFresh(t, levels, levelSamples()[:20])
	checkAllFresh(t, terms, termSamples()[:40])
	checkAllFresh(t, decls, declSamples()[:30])
}

func checkAllFresh[T any](t *testing.T, f face[T], all []T) {
	for _, x := range all {
		want := append([]byte("abc"), join(f.pieces(x))...)
		whole := bytes.Repeat([]byte("abcdefgh"), 1000)
		before := bytes.Clone(whole)
		got, other := f.write(whole[:3], x), f.write(whole[:3], x)
		if !bytes.Equal(got, want) {
			t.Errorf("%s %v with spare room: %s, not %s", f.name, x, show(got), show(want))
		}
		for i := range got {
			got[i] ^= 255
		}
		got = append(got, "more"...)
		if !bytes.Equal(whole, before) {
			t.Errorf("%s %v: what was handed in, or its spare room, changed", f.name, x)
		}
		if !bytes.Equal(other, want) {
			t.Errorf("%s %v: two answers share memory", f.name, x)
		}
		if again := f.write(nil, x); !bytes.Equal(again, want[3:]) {
			t.Errorf("%s %v: changed by being written", f.name, x)
		}
	}
}

// P6.1: a Value is written of a DeclDef alone, whatever it is.
func TestValueOfOthers(t *testing.T) {
	for _, kind := range []int{0, api.DeclAxiom, api.DeclFamily, api.DeclCtor, api.DeclRec, 6, far} {
		d := api.Decl{Kind: kind, Name: "a", Type: prop}
		want := join(declPieces(d))
		for _, d.Value = range []api.Term{c, {Kind: -1}, ring(api.TermApp, 2)} {
			if got := codec.Decl(nil, d); !bytes.Equal(got, want) {
				t.Errorf("kind %d with a Value: %s, not %s", kind, show(got), show(want))
			}
		}
	}
}

// P6.1: what is whole is written, however great it is, and too great to be read: only what is read has limits.
func TestGreatTerms(t *testing.T) {
	long := strings.Repeat("long", 100000)
	many := slices.Repeat([]api.Level{succ(u), zero, maxi(zero, param(3))}, 30000)
	for what, x := range map[string]api.Term{
		"a long Name":        con(long),
		"many Levels":        con("c", many...),
		"five Levels":        con("c", many[:5]...),
		"MaxSize + 1 parts":  bushy(api.TermApp, api.MaxSize+1, v(0)),
		"100,001 parts":      bushy(api.TermPi, 100001, prop),
		"2^20 + 1 parts":     bushy(api.TermApp, 1<<20+1, c),
		"2^21 - 1 parts":     bushy(api.TermLam, 1<<21-1, v(300)),
		"MaxDepth + 1":       leaning(api.TermLam, 1, api.MaxDepth+1, v(0)),
		"deep by its first":  leaning(api.TermApp, 0, 3000, v(0)),
		"deep by its second": leaning(api.TermPi, 1, 3000, c),
		"deep by its third":  leaning(api.TermLet, 2, 3000, prop),
	} {
		want := model(x)
		if got := codec.Term([]byte{9}, x); !bytes.Equal(got, append([]byte{9}, want...)) {
			t.Errorf("a term with %s: %s, not %s", what, show(got), show(want))
		}
		d := api.Decl{Kind: api.DeclDef, Name: long, Family: long, Type: x, Value: x, Ctors: []api.Ctor{{Name: long, Type: x}, {Type: v(3)}}}
		text := slices.Concat([]byte{128, 181, 24}, []byte(long))
		wantDecl := slices.Concat([]byte{2, 0, 0}, text, text, want, []byte{1}, want, []byte{2}, text, want, []byte{0, 0, 3})
		if got := codec.Decl(nil, d); !bytes.Equal(got, wantDecl) {
			t.Errorf("a declaration with %s: %s, not %s", what, show(got), show(wantDecl))
		}
	}
}

// model: what termPieces say, for great terms.
func model(t api.Term) (b []byte) {
	var add func(api.Term)
	add = func(t api.Term) {
		args := t.Args
		t.Args = nil
		b = append(b, join(termPieces(t))...)
		for _, a := range args {
			add(a)
		}
	}
	add(t)
	return b
}

// P6.1: terms that are deeper than a stack of calls.
func TestDeepTerms(t *testing.T) {
	const deep = 1000000
	for _, x := range []struct {
		kind, side       int
		ahead, at, later []byte
	}{
		{api.TermApp, 0, []byte{3}, []byte{2, 1, 'c', 0}, []byte{0, 0}},
		{api.TermLam, 1, []byte{4, 0, 0}, []byte{2, 1, 'c', 0}, nil},
		{api.TermLet, 1, []byte{6, 0, 0}, []byte{2, 1, 'c', 0}, []byte{0, 0}},
	} {
		got := codec.Term(nil, leaning(x.kind, x.side, deep, c))
		want := slices.Concat(bytes.Repeat(x.ahead, deep-1), x.at, bytes.Repeat(x.later, deep-1))
		if !bytes.Equal(got, want) {
			t.Errorf("a term of kind %d, deep by its Args[%d]: %s, not %s", x.kind, x.side, show(got), show(want))
		}
	}
}

// doubled: a term of 2^n ends, in little memory.
func doubled(kind, n int, t api.Term) api.Term {
	for range n {
		t = of(kind, t, t)
	}
	return t
}

// P6.1: terms that share memory are written as others.
func TestSharedParts(t *testing.T) {
	row := []api.Term{app(v(1), v(2)), app(v(3), prop), con("d", u)}
	one := app(of(api.TermLet, row...), of(api.TermPi, row[:2]...))
	two := app(of(api.TermLam, row[1:]...), one)
	for what, x := range map[string]api.Term{
		"doubled":       doubled(api.TermApp, 19, c),
		"doubled twice": app(doubled(api.TermPi, 18, one), doubled(api.TermLam, 18, two)),
		"lists of one another, and much ahead of them": app(doubled(api.TermApp, 18, v(0)), app(app(one, two), app(two, one))),
	} {
		want := model(x)
		if got := codec.Term(nil, x); !bytes.Equal(got, want) {
			t.Errorf("%s: %d bytes, not %d", what, len(got), len(want))
		}
	}
}

// What is written of what may not be, but is formed as its Kind asks, is not read: its limits are told.
func TestTooGreatToBeRead(t *testing.T) {
	six := make([]api.Ctor, api.MaxCtors+1)
	long := strings.Repeat("n", api.MaxName+1)
	for _, why := range []string{
		levels.fails(codec.Level(nil, param(api.MaxParams)), api.ErrLevel),
		levels.fails(codec.Level(nil, param(far+1)), api.ErrRange),
		levels.fails(codec.Level(nil, tall(api.MaxLevel+1, zero)), api.ErrDeep),
		levels.fails(codec.Level(nil, bushyLevel(api.MaxParts+1, zero)), api.ErrLong),
		terms.fails(codec.Term(nil, v(far+1)), api.ErrRange),
		terms.fails(codec.Term(nil, sort(tall(api.MaxLevel+1, u))), api.ErrDeep),
		terms.fails(codec.Term(nil, con("c", make([]api.Level, api.MaxParams+1)...)), api.ErrLevel),
		terms.fails(codec.Term(nil, con(long)), api.ErrLong),
		terms.fails(codec.Term(nil, leaning(api.TermPi, 1, api.MaxDepth+1, c)), api.ErrDeep),
		terms.fails(codec.Term(nil, bushy(api.TermPi, api.MaxSize+1, c)), api.ErrLong),
		decls.fails(codec.Decl(nil, api.Decl{}), api.ErrForm),
		decls.fails(codec.Decl(nil, api.Decl{Kind: 6}), api.ErrForm),
		decls.fails(codec.Decl(nil, api.Decl{Kind: 1, Params: far + 1}), api.ErrRange),
		decls.fails(codec.Decl(nil, api.Decl{Kind: 1, Count: far + 1}), api.ErrRange),
		decls.fails(codec.Decl(nil, api.Decl{Kind: 1, Name: long}), api.ErrLong),
		decls.fails(codec.Decl(nil, api.Decl{Kind: 1, Family: long}), api.ErrLong),
		decls.fails(codec.Decl(nil, api.Decl{Kind: 3, Ctors: six}), api.ErrLong),
	} {
		if why != "" {
			t.Error(why)
		}
	}
}
