package names_test

import (
	"fmt"
	"math/rand"
	"regexp"
	"strings"
	"testing"

	"touchstone/api"
	"touchstone/names"
	"touchstone/text"
)

func wantMay(t *testing.T, s string, want bool) {
	t.Helper()
	if names.May(s) != want {
		t.Errorf("May of %q (%d bytes) is not %v", s[:min(len(s), 60)], len(s), want)
	}
}

// isName: is s a name, as chapter 7 says?
func isName(s string) bool {
	return len(s) <= api.MaxName && regexp.MustCompile(`\A[A-Za-z]([A-Za-z0-9_]|\.[A-Za-z])*\z`).MatchString(s)
}

// P10.1 and the chapter's examples: names, of one piece and of several.
func TestMay(t *testing.T) {
	for _, s := range []string{"a", "z", "A", "Z", "ab", "aB", "a9", "a_", "a__", "a_9_", "Z9_", "a.b", "a.B", "a.b.c", "a_.b", "a9.b9", "a.x_", "nat.rec", "a.b.c.d.e.f.g.h.i.j.k.l", "x0123456789", "ABCdef_123.GHI_"} {
		wantMay(t, s, true)
	}
	for _, s := range []string{"", "a.", ".b", "1a", "_a", "a..b", "a.1", "a._", "a.b.", ".", "..", "_", "0", "a.b..c", "a.b.1", ".a.b", " a", "a ", "a b", "a\n", "\na", "a\x00", "a-b", "a{0}", "a{", "(a b)", "#0", "*0", "a,b", "a'", "é", "aé", "ａ", "a\u00a0", "a\u0301", "\xc3", "a\xff", "\u212a", "\u017f", "a\u212a"} {
		wantMay(t, s, false)
	}
}

// P10.1: names of just MaxName bytes, and of one more.
func TestMayLength(t *testing.T) {
	for _, piece := range []string{"a", "a9", "a_", "a.", "Ab.C"} {
		for n := 1; n <= 3*api.MaxName; n++ {
			s := strings.Repeat(piece, n)[:n]
			want := n <= api.MaxName && !strings.HasSuffix(s, ".")
			wantMay(t, s, want)
		}
	}
	for _, n := range []int{api.MaxText, api.MaxText + 1, 1 << 16, 1 << 28} {
		wantMay(t, strings.Repeat("a", n), false)
		wantMay(t, "a"+strings.Repeat(" ", n), false)
		wantMay(t, strings.Repeat("\x00", n), false)
	}
}

// P10.1: each byte alone, at the beginning, inside, behind a dot, ahead of one, and at the end.
func TestMayBytes(t *testing.T) {
	for b := range 256 {
		letter := b >= 'a' && b <= 'z' || b >= 'A' && b <= 'Z'
		goesOn := letter || b >= '0' && b <= '9' || b == '_'
		s := string([]byte{byte(b)})
		for whole, want := range map[string]bool{
			s: letter, s + "b": letter, s + ".b": letter, s + s: letter,
			"a" + s: goesOn, "ab" + s: goesOn, "a.b" + s: goesOn, "a" + s + ".b": goesOn,
			"a" + s + "b": goesOn || b == '.', "a_" + s + "b": goesOn || b == '.', "a" + s + "1": goesOn, "a" + s + "_": goesOn,
			"a." + s: letter, "a." + s + "b": letter, "a.b." + s: letter, "a." + s + ".b": letter,
			strings.Repeat("a", api.MaxName-1) + s: goesOn, strings.Repeat("a", api.MaxName) + s: false,
		} {
			wantMay(t, whole, want)
			if isName(whole) != want {
				t.Errorf("%q: the test itself is not sure of it", whole)
			}
		}
	}
}

// drawn: a text of bytes most of which may stand in names.
func drawn(r *rand.Rand) string {
	const signs = "abzABZ019_.."
	b := make([]byte, r.Intn(30))
	for i := range b {
		b[i] = signs[r.Intn(len(signs))]
		if r.Intn(60) == 0 {
			b[i] = byte(r.Intn(256))
		}
	}
	if len(b) > 0 && r.Intn(3) > 0 {
		b[0] = 'n'
	}
	return string(b)
}

// P10.1: drawn texts are names just as chapter 7 says, and just if package text reads all of them as a name.
func TestMayDrawn(t *testing.T) {
	r := rand.New(rand.NewSource(10))
	told := map[bool]int{}
	for range 60000 {
		s := drawn(r)
		want := isName(s)
		told[want]++
		wantMay(t, s, want)
		x, _, e := text.Parse(s)
		if reads := e == api.OK && x.Kind == api.TermConst && x.Name == s; reads != want {
			t.Errorf("%q: package text reads it as a name: %v", s, reads)
		}
	}
	if told[true] < 5000 || told[false] < 5000 {
		t.Errorf("what was drawn tells little: %v", told)
	}
}

// P10.1: texts that package text reads, and shows, but that are no names by themselves; and the names in them.
func TestMayText(t *testing.T) {
	for _, s := range []string{"#0", "*0", "(f a)", `\a. b`, "!a. b", "=a:b. c", "f{0}", " f", "f ", "f\n"} {
		if _, _, e := text.Parse(s); e != api.OK {
			t.Errorf("%q is no text of a term", s)
		}
		wantMay(t, s, false)
	}
	for _, s := range []string{"S", "M", "I", "p", "p0", "S0"} { // signs of levels are names elsewhere
		wantMay(t, s, true)
		if got, _, e := text.Parse(fmt.Sprintf("(%s{0} %s)", s, s)); e != api.OK || got.Args[1].Name != s {
			t.Errorf("%q is not read as a name", s)
		}
	}
}
