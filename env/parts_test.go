package env

import (
	"fmt"
	"math/rand"
	"strings"
	"testing"
	"unsafe"

	"touchstone/api"
)

// What things have in bytes is what is counted.
func TestBytes(t *testing.T) {
	for what, got := range map[string][2]uintptr{
		"Decl": {unsafe.Sizeof(api.Decl{}), declBytes}, "Ctor": {unsafe.Sizeof(api.Ctor{}), ctorBytes},
		"Term": {unsafe.Sizeof(api.Term{}), termBytes}, "Level": {unsafe.Sizeof(api.Level{}), levelBytes},
	} {
		if got[0] != got[1] {
			t.Errorf("a %s has %d bytes; %d are counted", what, got[0], got[1])
		}
	}
}

// bytesOf: what declarations have in bytes, by value.
func bytesOf(l []*api.Decl) (all int) {
	var levels func(list []api.Level)
	levels = func(list []api.Level) {
		all += len(list) * levelBytes
		for _, l := range list {
			levels(l.Args)
		}
	}
	var term func(t api.Term)
	term = func(t api.Term) {
		levels(t.Levels)
		all += len(t.Args) * termBytes
		for _, a := range t.Args {
			term(a)
		}
	}
	for _, d := range l {
		all += declBytes + len(d.Ctors)*ctorBytes
		term(d.Type)
		term(d.Value)
		for _, c := range d.Ctors {
			term(c.Type)
		}
	}
	return all
}

// Declarations weigh what their copies have, and are too great by one byte.
func TestWeigh(t *testing.T) {
	for seed := range int64(300) {
		l := drawn(rand.New(rand.NewSource(seed)), false)
		all := bytesOf(l)
		if all > 1<<24 {
			continue
		}
		w, ok := weigh(l, all)
		if got := len(l)*declBytes + w.ctors*ctorBytes + w.terms*termBytes + w.levels*levelBytes; !ok || got != all {
			t.Fatalf("seed %d: %d bytes, %v; want %d", seed, got, ok, all)
		}
		if _, ok := weigh(l, all-1); ok {
			t.Fatalf("seed %d: %d bytes have room in one less", seed, all)
		}
	}
}

// Few bytes are told as many as they are, in lists that share nothing; one more, and they share what the old ones do.
func TestCopies(t *testing.T) {
	shared := api.Term{Kind: api.TermApp, Args: make([]api.Term, 2)}
	d := &api.Decl{Name: "a", Type: shared, Value: shared}
	for _, most := range []int{0, declBytes + 4*termBytes - 1, declBytes + 4*termBytes, mostTold} {
		out := copies([]*api.Decl{d}, most, same)[0]
		shares := &out.Type.Args[0] == &out.Value.Args[0]
		if shares != (most < declBytes+4*termBytes) || &out.Type.Args[0] == &shared.Args[0] || len(out.Type.Args) != 2 || len(out.Value.Args) != 2 {
			t.Errorf("up to %d bytes: shares %v", most, shares)
		}
	}
}

// A pool has each text once, in memory of its own.
func TestPool(t *testing.T) {
	var p pool
	great := strings.Repeat("ab", 50)
	first := p.keep(great[:2])
	if first != "ab" || unsafe.StringData(first) == unsafe.StringData(great) || unsafe.StringData(p.keep(great[2:4])) != unsafe.StringData(first) {
		t.Errorf("%q", first)
	}
	if p.keep("") != "" || p.keep(great) != great || p.keep("b") != "b" {
		t.Error("a text is another one")
	}
	p.met = mostText // more bytes than are handed in: to go through texts again and again could take too long
	for _, s := range []string{great[:2], great[1:3]} {
		if got := p.keep(s); got != s || unsafe.StringData(got) != unsafe.StringData(s) {
			t.Errorf("%q is still gone through", s)
		}
	}
}

// sheets: of how many declarations each sheet is, the top first.
func sheets(s *sheet) (sizes []int) {
	for ; s != nil; s = s.beneath {
		sizes = append(sizes, len(s.decls))
	}
	return sizes
}

// However declarations come, there are few sheets to look through, and each has more than twice those above it, or as many.
func TestFewSheets(t *testing.T) {
	r := rand.New(rand.NewSource(4))
	for what, next := range map[string]func(i int) int{
		"one by one": func(int) int { return 1 }, "drawn": func(int) int { return 1 + r.Intn(30) }, "falling": func(i int) int { return max(100-i, 1) }, "rising": func(i int) int { return i + 1 },
	} {
		e := New()
		for i := range 300 {
			var l []api.Decl
			for j := range next(i) {
				l = append(l, api.Decl{Name: fmt.Sprintf("n%d.m%d", i, j)})
			}
			e.Add(l...)
			sizes := sheets(e.top)
			for k := 1; k < len(sizes); k++ {
				if sizes[k] < 2*sizes[k-1] {
					t.Fatalf("%s: sheets of %v", what, sizes)
				}
			}
		}
	}
}

// Environments that have the same declarations hold the same sheets; what comes to one makes no sheet of another anew.
func TestSameSheets(t *testing.T) {
	e := New()
	for i := range 100 {
		e.Add(api.Decl{Name: fmt.Sprint("a", i)})
	}
	o, k := e.Over(), e.Copy()
	if o.top != e.top || k.top != e.top || e.Over().Over().top != e.top {
		t.Error("sheets are made anew")
	}
	for i := range 1000 {
		o.Add(api.Decl{Name: fmt.Sprint("b", i)})
	}
	s := o.top
	for s.start >= o.beneath {
		s = s.beneath
	}
	if s != e.top {
		t.Error("sheets that lie beneath are made anew")
	}
}
