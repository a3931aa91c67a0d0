package codec_test

import (
	"bytes"
	"math"
	"math/rand"
	"slices"
	"strings"
	"testing"

	"touchstone/api"
	"touchstone/octet"
)

// P6.2: what is written is read as the same, whatever stands behind.
func TestReadBack(t *testing.T) {
	checkReadBack(t, levels, levelSamples())
	checkReadBack(t, terms, termSamples())
	checkReadBack(t, decls, declSamples())
}

func checkReadBack[T any](t *testing.T, f face[T], all []T) {
	tails := [][]byte{nil, {0}, {1, 2}, {128}, bytes.Repeat([]byte{255}, 20), f.write(nil, all[0])}
	for _, x := range all {
		b := f.write(nil, x)
		for _, tail := range tails {
			row := slices.Concat(b, tail)
			before := bytes.Clone(row)
			if why := f.reads(row, x, len(b)); why != "" {
				t.Errorf("with %v behind: %s", tail, why)
			}
			if !bytes.Equal(row, before) {
				t.Errorf("the bytes of a %s changed", f.name)
			}
		}
	}
}

// P6.2: bytes that end too early, at each place.
func TestCutOff(t *testing.T) {
	checkCutOff(t, levels, levelSamples())
	checkCutOff(t, terms, termSamples())
	checkCutOff(t, decls, declSamples())
}

func checkCutOff[T any](t *testing.T, f face[T], all []T) {
	for _, x := range all {
		b := f.write(nil, x)
		for i := range b {
			if why := f.fails(b[:i], api.ErrShort); why != "" {
				t.Fatal(why)
			}
		}
	}
	if why := f.fails(nil, api.ErrShort); why != "" {
		t.Error(why)
	}
}

// wrong: bytes that cannot stand in a piece's place, and what is told of them.
type wrong struct {
	bytes []byte
	want  api.Errno
}

// wrongNumbers: numbers, as octet writes them.
func wrongNumbers(want api.Errno, all ...uint64) (list []wrong) {
	for _, n := range all {
		list = append(list, wrong{octet.Var(nil, n), want})
	}
	return list
}

// wrongs: how p can be wrong, wherever it stands.
func wrongs(p piece) []wrong {
	// A number that is not as short as it can be; one beyond 64 bits, told at once.
	padded := slices.Clone(p.bytes)
	if p.what == name {
		padded = padded[:1]
	}
	padded[len(padded)-1] |= 128
	all := []wrong{{append(padded, 0), api.ErrForm}, {append(bytes.Repeat([]byte{128}, 9), 2), api.ErrRange}, {append(bytes.Repeat([]byte{255}, 9), 255), api.ErrRange}, {append(bytes.Repeat([]byte{255}, 9), 0), api.ErrForm}}
	great := []uint64{far + 1, 1 << 31, 1 << 32, 1<<32 + 1, 1 << 40, 1 << 63, 1<<63 + 1, math.MaxUint64 - 1, math.MaxUint64}
	kinds := func(none ...uint64) []wrong {
		return append(wrongNumbers(api.ErrForm, none...), append(wrongNumbers(api.ErrForm, great...), wrongNumbers(api.ErrForm, 127, 128, 256, 257, far)...)...)
	}
	more := map[int][]wrong{
		levelKind:  kinds(5, 6),
		termKind:   kinds(7, 8),
		declKind:   kinds(0, 6, 7),
		noValue:    kinds(1, 2, 3),
		oneValue:   kinds(0, 2, 3),
		number:     wrongNumbers(api.ErrRange, great...),
		levelParam: append(wrongNumbers(api.ErrLevel, api.MaxParams, 5, 256, far), wrongNumbers(api.ErrRange, great...)...),
		levelCount: append(wrongNumbers(api.ErrLevel, api.MaxParams+1, 6, 256, far), wrongNumbers(api.ErrRange, great...)...),
		ctorCount:  append(wrongNumbers(api.ErrLong, api.MaxCtors+1, 7, 256, far), wrongNumbers(api.ErrRange, great...)...),
		name:       append(wrongNumbers(api.ErrLong, api.MaxName+1, 26, 256, far), wrongNumbers(api.ErrLong, great...)...),
	}
	if p.what == name {
		all = append(all, wrong{append([]byte{api.MaxName + 1}, make([]byte, api.MaxName+1)...), api.ErrLong})
	}
	return append(all, more[p.what]...)
}

// P6.2: each error, at each place where it can arise, and the first one, byte by byte: whatever stands behind it,
// wrong too, or nothing at all, does not count.
func TestWrongPieces(t *testing.T) {
	checkWrongPieces(t, levels, levelSamples()[:40])
	checkWrongPieces(t, terms, termSamples()[:40])
	checkWrongPieces(t, decls, declSamples()[:30])
}

func checkWrongPieces[T any](t *testing.T, f face[T], all []T) {
	for _, x := range all {
		pieces := f.pieces(x)
		for i, p := range pieces {
			ahead, behind := join(pieces[:i]), join(pieces[i+1:])
			for _, w := range wrongs(p) {
				bad := slices.Concat(ahead, w.bytes)
				for _, row := range [][]byte{bad, slices.Concat(bad, behind), slices.Concat(bad, bytes.Repeat([]byte{255}, 30)), slices.Concat(bad, make([]byte, 100))} {
					if why := f.fails(row, w.want); why != "" {
						t.Fatal(why)
					}
				}
			}
		}
	}
}

// P6.2: of two pieces that are wrong, the one ahead is told.
func TestWrongTwice(t *testing.T) {
	d := api.Decl{Kind: api.DeclDef, Params: 1, Count: 2, Name: "d", Family: "F", Type: of(api.TermPi, sort(maxi(u, zero)), con("x", u, succ(param(1)))), Value: of(api.TermLet, v(1), c, prop), Ctors: []api.Ctor{{Name: "k", Type: v(0)}}}
	pieces := declPieces(d)
	for i, p := range pieces {
		for j := i + 1; j < len(pieces); j++ {
			for _, first := range wrongs(p) {
				second := wrongs(pieces[j])
				w := second[len(second)-1]
				row := slices.Concat(join(pieces[:i]), first.bytes, join(pieces[i+1:j]), w.bytes, join(pieces[j+1:]))
				if why := decls.fails(row, first.want); why != "" {
					t.Fatal(why)
				}
			}
		}
	}
}

// P6.2: numbers at their greatest, and one above it.
func TestGreatestNumbers(t *testing.T) {
	checkBytes(t, terms, v(far), []byte{0, 128, 128, 128, 128, 4})
	checkBytes(t, decls, api.Decl{Kind: 1, Params: far, Count: far}, []byte{1, 128, 128, 128, 128, 4, 128, 128, 128, 128, 4, 0, 0, 0, 0, 0, 0})
	for _, why := range []string{
		terms.fails([]byte{0, 129, 128, 128, 128, 4}, api.ErrRange),
		levels.fails([]byte{4, 128, 128, 128, 128, 4}, api.ErrLevel),
		levels.fails([]byte{4, 129, 128, 128, 128, 4}, api.ErrRange),
		decls.fails([]byte{1, 129, 128, 128, 128, 4}, api.ErrRange),
		decls.fails([]byte{1, 0, 129, 128, 128, 128, 4}, api.ErrRange),
	} {
		if why != "" {
			t.Error(why)
		}
	}
}

// P6.2: a Value that stands where its Kind has none, and lacks where it has one, for each Kind.
func TestValueByKind(t *testing.T) {
	for kind := api.DeclAxiom; kind <= api.DeclRec; kind++ {
		head := []byte{byte(kind), 0, 0, 1, 'a', 0, 1, 0}
		with, without := slices.Concat(head, []byte{1, 0, 7, 0}), slices.Concat(head, []byte{0, 0})
		d := api.Decl{Kind: kind, Name: "a", Type: prop}
		good, bad := without, with
		if kind == api.DeclDef {
			good, bad, d.Value = with, without, v(7)
		}
		for _, why := range []string{
			decls.reads(good, d, len(good)), decls.fails(bad, api.ErrForm), decls.fails(bad[:len(head)+1], api.ErrForm), decls.fails(head, api.ErrShort),
			decls.fails(append(head[:len(head):len(head)], 2), api.ErrForm), decls.fails(append(head[:len(head):len(head)], 129, 0), api.ErrForm), decls.fails(append(head[:len(head):len(head)], 128), api.ErrShort),
		} {
			if why != "" {
				t.Errorf("kind %d: %s", kind, why)
			}
		}
	}
}

// P6.2: Names at MaxName bytes, and above; a Name whose bytes lack.
func TestNames(t *testing.T) {
	long := strings.Repeat("n", api.MaxName)
	checkBytes(t, terms, con(long), slices.Concat([]byte{2, 24}, []byte(long), []byte{0}))
	for _, ahead := range [][]byte{{1, 0, 0}, {1, 0, 0, 1, 'a'}, {1, 0, 0, 0, 0, 0, 0, 0, 1}, {1, 0, 0, 0, 0, 2}} {
		for _, why := range []string{
			decls.fails(slices.Concat(ahead, []byte{25}, []byte(long), []byte{'n', 0, 0, 0}), api.ErrLong), decls.fails(append(ahead, 25), api.ErrLong), decls.fails(append(ahead, 128, 128, 128, 128, 16), api.ErrLong),
			decls.fails(slices.Concat(ahead, []byte{24}, []byte(long)[:23]), api.ErrShort), decls.fails(slices.Concat(ahead, []byte{152, 0}, []byte(long)), api.ErrForm),
		} {
			if why != "" {
				t.Error(why)
			}
		}
	}
}

// P6.2: as many Levels as MaxParams, as many Ctors as MaxCtors, and one more.
func TestCounts(t *testing.T) {
	four := make([]api.Level, api.MaxParams)
	checkBytes(t, terms, con("c", four...), []byte{2, 1, 'c', 4, 0, 0, 0, 0})
	checkBytes(t, decls, api.Decl{Kind: 3, Ctors: make([]api.Ctor, api.MaxCtors)}, slices.Concat([]byte{3, 0, 0, 0, 0, 0, 0, 0, 5}, make([]byte, 15)))
	for _, why := range []string{
		terms.fails([]byte{2, 1, 'c', 5, 0, 0, 0, 0, 0}, api.ErrLevel), terms.fails([]byte{2, 1, 'c', 5}, api.ErrLevel), terms.fails([]byte{2, 1, 'c', 4, 0, 0, 0}, api.ErrShort),
		decls.fails(slices.Concat([]byte{3, 0, 0, 0, 0, 0, 0, 0, 6}, make([]byte, 18)), api.ErrLong), decls.fails([]byte{3, 0, 0, 0, 0, 0, 0, 0, 6}, api.ErrLong),
		decls.fails(slices.Concat([]byte{3, 0, 0, 0, 0, 0, 0, 0, 5}, make([]byte, 14)), api.ErrShort),
	} {
		if why != "" {
			t.Error(why)
		}
	}
}

// levelWithin: the bytes of a level, by where they stand, and what is told there.
func levelWithin(l []byte) map[string]func(want api.Errno) string {
	sorted, second := slices.Concat([]byte{3, 0, 0, 1}, l), slices.Concat([]byte{2, 1, 'c', 2, 1, 0}, l)
	return map[string]func(api.Errno) string{
		"by itself":               func(want api.Errno) string { return levels.fails(l, want) },
		"of a Sort":               func(want api.Errno) string { return terms.fails(sorted, want) },
		"of a Const":              func(want api.Errno) string { return terms.fails(second, want) },
		"of a declaration's Type": func(want api.Errno) string { return decls.fails(slices.Concat([]byte{1, 0, 0, 0, 0}, sorted), want) },
		"of a declaration's Value": func(want api.Errno) string {
			return decls.fails(slices.Concat([]byte{2, 0, 0, 0, 0, 0, 0, 1}, second), want)
		},
		"of a constructor's Type": func(want api.Errno) string {
			return decls.fails(slices.Concat([]byte{1, 0, 0, 0, 0, 0, 0, 0, 2, 0, 0, 0, 1, 'k'}, sorted), want)
		},
	}
}

// behinds: what may stand behind the place of a fault without changing it.
func behinds() [][]byte {
	return [][]byte{nil, {0}, {99}, {128}, {128, 0}, bytes.Repeat([]byte{255}, 12), make([]byte, 3000)}
}

// P6.2: levels as deep and as great as may be, and the part that is too deep, or too many, ahead of its bytes.
func TestLevelLimits(t *testing.T) {
	all := map[string]struct {
		ahead []byte // up to the part that is too much
		want  api.Errno
	}{
		"33 deep":                                  {bytes.Repeat([]byte{1}, api.MaxLevel), api.ErrDeep},
		"33 deep by its first":                     {bytes.Repeat([]byte{2}, api.MaxLevel), api.ErrDeep},
		"33 deep by its second":                    {slices.Concat(bytes.Repeat([]byte{3, 0}, api.MaxLevel-1), []byte{1}), api.ErrDeep},
		"65 parts":                                 {treeBytes(2, []byte{0}, api.MaxParts), api.ErrLong},
		"65 parts, parameters":                     {treeBytes(3, []byte{4, 1}, api.MaxParts), api.ErrLong},
		"the 64th part is 33 deep":                 {slices.Concat([]byte{2}, join(levelPieces(bushyLevel(31, zero))), bytes.Repeat([]byte{1}, 31)), api.ErrDeep},
		"the 65th part is 33 deep":                 {slices.Concat([]byte{2, 1}, join(levelPieces(bushyLevel(31, zero))), bytes.Repeat([]byte{1}, 31)), api.ErrLong},
		"the 65th part is 32 deep, the 66th is 33": {slices.Concat([]byte{2, 1, 1}, join(levelPieces(bushyLevel(31, u))), bytes.Repeat([]byte{1}, 30)), api.ErrLong},
	}
	for what, x := range all {
		for _, behind := range behinds() {
			for where, fails := range levelWithin(slices.Concat(x.ahead, behind)) {
				if why := fails(x.want); why != "" {
					t.Fatalf("%s, %s: %s", what, where, why)
				}
			}
		}
		for where, fails := range levelWithin(x.ahead[:len(x.ahead)-1]) {
			if why := fails(api.ErrShort); why != "" {
				t.Fatalf("%s, one byte less, %s: %s", what, where, why)
			}
		}
	}
	// Each level counts by itself.
	full := succ(bushyLevel(63, zero))
	deep := tall(api.MaxLevel, u)
	x := app(con("c", full, full, deep, full), app(sort(full), sort(deep)))
	checkBytes(t, terms, x, join(termPieces(x)))
}

// treeBytes: the first so many parts of a tree of levels of that kind, with that end, as bytes.
func treeBytes(kind byte, end []byte, parts int) (b []byte) {
	var add func(deep int)
	add = func(deep int) {
		switch {
		case parts == 0:
			return
		case deep == 8:
			parts--
			b = append(b, end...)
		default:
			parts--
			b = append(b, kind)
			add(deep + 1)
			add(deep + 1)
		}
	}
	add(1)
	return b
}

// termWithin: likewise of a term.
func termWithin(b []byte) map[string]func(want api.Errno) string {
	return map[string]func(api.Errno) string{
		"by itself":            func(want api.Errno) string { return terms.fails(b, want) },
		"a declaration's Type": func(want api.Errno) string { return decls.fails(slices.Concat([]byte{1, 0, 0, 0, 0}, b), want) },
		"a declaration's Value": func(want api.Errno) string {
			return decls.fails(slices.Concat([]byte{2, 0, 0, 0, 0, 3, 0, 0, 0, 0, 1}, b), want)
		},
		"a constructor's Type": func(want api.Errno) string {
			return decls.fails(slices.Concat([]byte{1, 0, 0, 0, 0, 0, 0, 0, 2, 0, 3, 0, 0, 0, 0, 1, 'k'}, b), want)
		},
	}
}

// P6.2: terms as deep and as great as may be, and the part that is too deep, or too many, ahead of its bytes.
func TestTermLimits(t *testing.T) {
	rest := func(parts int) []byte { return join(termPieces(bushy(api.TermApp, parts, v(0)))) }
	all := map[string]struct {
		ahead []byte // up to the part that is too much
		want  api.Errno
	}{
		"101 deep by its first":                                     {bytes.Repeat([]byte{3}, api.MaxDepth), api.ErrDeep},
		"101 deep by its second":                                    {slices.Concat(bytes.Repeat([]byte{4, 0, 0}, api.MaxDepth-1), []byte{5}), api.ErrDeep},
		"101 deep by its third":                                     {slices.Concat(bytes.Repeat([]byte{6, 1, 0, 0, 9}, api.MaxDepth-1), []byte{6}), api.ErrDeep},
		"2001 parts":                                                {slices.Concat([]byte{3}, rest(1999)), api.ErrLong},
		"2001 parts, by its third":                                  {slices.Concat([]byte{6}, rest(999), []byte{5}, rest(999)), api.ErrLong},
		"the 1999th part is 101 deep":                               {slices.Concat([]byte{6}, rest(1), rest(1897), bytes.Repeat([]byte{3}, 98), []byte{6}), api.ErrDeep},
		"the 2000th part is 101 deep":                               {slices.Concat([]byte{3}, rest(1899), bytes.Repeat([]byte{3}, 98), []byte{6}), api.ErrDeep},
		"the 2001st part is 101 deep":                               {slices.Concat([]byte{6}, rest(1), rest(1899), bytes.Repeat([]byte{3}, 98), []byte{6}), api.ErrLong},
		"the 2001st part is 100 deep, and what stands below it 101": {slices.Concat([]byte{3}, rest(1901), bytes.Repeat([]byte{3}, 98)), api.ErrLong},
	}
	for what, x := range all {
		for _, behind := range behinds() {
			for where, fails := range termWithin(slices.Concat(x.ahead, behind)) {
				if why := fails(x.want); why != "" {
					t.Fatalf("%s, %s: %s", what, where, why)
				}
			}
		}
		for where, fails := range termWithin(x.ahead[:len(x.ahead)-1]) {
			if why := fails(api.ErrShort); why != "" {
				t.Fatalf("%s, one byte less, %s: %s", what, where, why)
			}
		}
	}
}

// P6.2: terms at their limits are read, and each term of a declaration counts by itself.
func TestTermsAtTheirLimits(t *testing.T) {
	even := of(api.TermLet, v(0), bushy(api.TermApp, 999, c), bushy(api.TermLam, 999, prop))
	var ctors []api.Ctor
	for kind, side := range map[int]int{api.TermApp: 0, api.TermLam: 1, api.TermPi: 1, api.TermLet: 2} {
		deep := leaning(kind, side, api.MaxDepth, con("x", u))
		checkBytes(t, terms, deep, model(deep))
		ctors = append(ctors, api.Ctor{Name: "k", Type: app(v(0), even.Args[1])}, api.Ctor{Type: deep})
	}
	checkBytes(t, terms, even, model(even))
	d := api.Decl{Kind: api.DeclDef, Type: even, Value: even, Ctors: append([]api.Ctor{{Type: even}}, ctors[:4]...)}
	checkBytes(t, decls, d, join(declPieces(d)))
}

// P6.2: nothing else has the bytes of a thing: what is read of whatever bytes is written as these.
func TestNothingElse(t *testing.T) {
	for n := range 5 {
		row := make([]byte, n)
		for {
			checkWhatever(t, row)
			if !next(row, 9) {
				break
			}
		}
	}
	for i := range 1 << 16 {
		checkWhatever(t, []byte{byte(i >> 8), byte(i), 0, 0, 0, 0, 0, 0, 0, 0, 0, 0, 0, 0})
	}
}

// next: the next row of numbers below most, if there is one.
func next(row []byte, most byte) bool {
	for i := range row {
		row[i]++
		if row[i] < most {
			return true
		}
		row[i] = 0
	}
	return false
}

func checkWhatever(t *testing.T, b []byte) {
	t.Helper()
	checkRead(t, levels, b)
	checkRead(t, terms, b)
	checkRead(t, decls, b)
}

// checkRead: b is read as a thing that has its bytes, or told an error.
func checkRead[T any](t *testing.T, f face[T], b []byte) {
	t.Helper()
	x, n, e := f.take(b)
	switch {
	case e != api.OK:
		if why := f.fails(b, e); why != "" {
			t.Fatal(why)
		}
	case n <= 0 || n > len(b) || !bytes.Equal(f.write(nil, x), b[:n]) || !bytes.Equal(join(f.pieces(x)), b[:n]):
		t.Fatalf("a %s of %s: %v, %d bytes", f.name, show(b), x, n)
	}
}

// P6.2: likewise of bytes that were changed here and there.
func TestChangedBytes(t *testing.T) {
	r := rand.New(rand.NewSource(64))
	rows := [][]byte{}
	for _, l := range levelSamples() {
		rows = append(rows, join(levelPieces(l)))
	}
	for _, x := range termSamples() {
		rows = append(rows, join(termPieces(x)))
	}
	for _, d := range declSamples() {
		rows = append(rows, join(declPieces(d)))
	}
	for range 40000 {
		b := bytes.Clone(rows[r.Intn(len(rows))])
		for range 1 + r.Intn(3) {
			at := r.Intn(len(b))
			switch r.Intn(4) {
			case 0:
				b[at] = byte(r.Intn(256))
			case 1:
				b[at] = byte(r.Intn(8))
			case 2:
				b = slices.Delete(b, at, min(len(b), at+1+r.Intn(3)))
				b = append(b, 0)
			default:
				b = slices.Insert(b, at, byte(r.Intn(256)))
			}
		}
		checkWhatever(t, b)
	}
}

// R3: what is read does not lie in the bytes: who writes into these does not change it.
func TestReadIsNew(t *testing.T) {
	for _, d := range declSamples() {
		b := decls.write(nil, d)
		got, _, _ := decls.take(b)
		again, _, _ := decls.take(b)
		for i := range b {
			b[i] ^= 255
		}
		for i := range again.Ctors {
			again.Ctors[i].Name = "scrawl"
		}
		if !sameDecl(got, d) {
			t.Fatalf("%v: written into", d)
		}
	}
}
