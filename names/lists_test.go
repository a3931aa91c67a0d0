package names_test

import (
	"bytes"
	"fmt"
	"math/rand"
	"slices"
	"strings"
	"testing"
	"unsafe"

	"touchstone/names"
)

// P10.1: Less is by bytes, a beginning lesser, of whatever texts.
func TestLess(t *testing.T) {
	rising := []string{"", "\x00", "\x00\x00", "\x00a", "\n", " ", ".", "0", "10", "2", "A", "AA", "B", "Z", "_", "a", "a\x00", "a ", "a.", "a.b", "a.b.c", "a.c", "a0", "aA", "a_", "aa", "aaa", "ab", "a\x7f", "a\x80", "a\xc3\xa9", "a\xff", "a\xff\x00", "b", "z", "\x7f", "\x80", "\x80a", "\xc3\xa9", "\xe2\x82\xac", "\xef\xbf\xbd", "\xf0\x9f\x98\x80", "\xff", "\xff\xff"}
	for i, a := range rising {
		for k, b := range rising {
			if names.Less(a, b) != (i < k) {
				t.Errorf("Less(%q, %q) is not %v", a, b, i < k)
			}
		}
	}
	long := strings.Repeat("a", 1<<20)
	for _, x := range []struct {
		a, b string
		want bool
	}{{long, long, false}, {long, long + "a", true}, {long + "a", long, false}, {long, "b", true}, {"b", long, false}, {long + "\x80", long + "\x7f", false}, {long + "\x7f", long + "\x80", true}} {
		if names.Less(x.a, x.b) != x.want {
			t.Errorf("Less of texts of %d and %d bytes is not %v", len(x.a), len(x.b), x.want)
		}
	}
}

// P10.1: Less of drawn texts.
func TestLessDrawn(t *testing.T) {
	r := rand.New(rand.NewSource(11))
	for range 20000 {
		a, b := anyText(r), anyText(r)
		if want := bytes.Compare([]byte(a), []byte(b)) < 0; names.Less(a, b) != want {
			t.Errorf("Less(%q, %q) is not %v", a, b, want)
		}
	}
}

// anyText: a text that is drawn out of few, names or not.
func anyText(r *rand.Rand) string {
	const signs = "aab.\x00\x80\xff"
	b := make([]byte, r.Intn(4))
	for i := range b {
		b[i] = signs[r.Intn(len(signs))]
	}
	return string(b)
}

// wantList: got is that list.
func wantList(t *testing.T, what string, got, want []string) {
	t.Helper()
	if !slices.Equal(got, want) {
		t.Errorf("%s: %q, want %q", what, got, want)
	}
}

// P10.1: Sorted is all of a list, rising, each once.
func TestSorted(t *testing.T) {
	for _, x := range []struct{ of, want []string }{
		{nil, nil}, {[]string{}, nil}, {make([]string, 0, 5), nil},
		{[]string{"a"}, []string{"a"}}, {[]string{""}, []string{""}}, {[]string{"a."}, []string{"a."}},
		{[]string{"a", "b", "c"}, []string{"a", "b", "c"}}, {[]string{"c", "b", "a"}, []string{"a", "b", "c"}}, {[]string{"b", "c", "a"}, []string{"a", "b", "c"}},
		{[]string{"a", "a"}, []string{"a"}}, {[]string{"", ""}, []string{""}}, {slices.Repeat([]string{"x"}, 1000), []string{"x"}}, {slices.Repeat([]string{"b", "a", ""}, 1000), []string{"", "a", "b"}},
		{[]string{"ab", "a", "abc", ""}, []string{"", "a", "ab", "abc"}}, {[]string{"a", "B", "_", "1", "b", "A"}, []string{"1", "A", "B", "_", "a", "b"}},
		{[]string{"10", "9", "1"}, []string{"1", "10", "9"}}, {[]string{"\xff", "\x80", "\x7f", "é", "\x00", "a b", "a\x00"}, []string{"\x00", "a\x00", "a b", "\x7f", "\x80", "é", "\xff"}},
	} {
		wantList(t, fmt.Sprintf("Sorted of %.60q", x.of), names.Sorted(x.of), x.want)
		wantList(t, fmt.Sprintf("Join of %.60q with nothing", x.of), names.Join(x.of, nil), x.want)
		wantList(t, fmt.Sprintf("Join of nothing with %.60q", x.of), names.Join([]string{}, x.of), x.want)
		wantList(t, fmt.Sprintf("Join of %.60q with itself", x.of), names.Join(x.of, x.of), x.want)
	}
}

// P10.1: Join is Sorted of both lists, sorted or not, whatever they share.
func TestJoin(t *testing.T) {
	for _, x := range []struct{ a, b, want []string }{
		{nil, nil, nil}, {[]string{}, nil, nil}, {nil, []string{}, nil},
		{[]string{"a", "c"}, []string{"b", "d"}, []string{"a", "b", "c", "d"}}, {[]string{"a", "b"}, []string{"c", "d"}, []string{"a", "b", "c", "d"}}, {[]string{"c", "d"}, []string{"a", "b"}, []string{"a", "b", "c", "d"}},
		{[]string{"a", "b", "c"}, []string{"b", "c", "d"}, []string{"a", "b", "c", "d"}}, {[]string{"a", "b"}, []string{"a", "b"}, []string{"a", "b"}}, {[]string{"b"}, []string{"a", "b", "c"}, []string{"a", "b", "c"}},
		{[]string{"d", "a", "d"}, []string{"c", "a", "b", "c"}, []string{"a", "b", "c", "d"}}, {[]string{"b", "a"}, []string{"a", "b"}, []string{"a", "b"}},
		{[]string{"", "a."}, []string{".", "", "\xff"}, []string{"", ".", "a.", "\xff"}},
	} {
		wantList(t, fmt.Sprintf("Join(%q, %q)", x.a, x.b), names.Join(x.a, x.b), x.want)
		wantList(t, fmt.Sprintf("Join(%q, %q)", x.b, x.a), names.Join(x.b, x.a), x.want)
	}
}

// drawnList: a list of texts that are drawn out of few.
func drawnList(r *rand.Rand, most int) []string {
	l := make([]string, r.Intn(most+1))
	for i := range l {
		l[i] = anyText(r)
	}
	return l
}

// put: l with s, if it is not there yet, in its place, by what the chapter says alone.
func put(l []string, s string) []string {
	at := 0
	for at < len(l) && bytes.Compare([]byte(l[at]), []byte(s)) < 0 {
		at++
	}
	if at < len(l) && l[at] == s {
		return l
	}
	return slices.Insert(l, at, s)
}

// P10.1: Sorted, Join and Has of drawn lists.
func TestListsDrawn(t *testing.T) {
	r := rand.New(rand.NewSource(12))
	told := map[bool]int{}
	for i := range 3000 {
		a, b := drawnList(r, i%120), drawnList(r, i%40)
		var inA, inBoth []string
		for _, s := range a {
			inA, inBoth = put(inA, s), put(inBoth, s)
		}
		for _, s := range b {
			inBoth = put(inBoth, s)
		}
		wantList(t, fmt.Sprintf("Sorted(%q)", a), names.Sorted(a), inA)
		wantList(t, fmt.Sprintf("Join(%q, %q)", a, b), names.Join(a, b), inBoth)
		for range 20 {
			s := anyText(r)
			want := slices.Contains(a, s)
			told[want]++
			wantHas(t, inA, s, want)
		}
	}
	if told[true] < 5000 || told[false] < 5000 {
		t.Errorf("what was drawn tells little: %v", told)
	}
}

// P10.1: Sorted of long lists.
func TestSortedLong(t *testing.T) {
	const count = 1 << 17
	var want []string
	for i := range count {
		want = append(want, fmt.Sprintf("n%08d", i))
	}
	turned := slices.Clone(want)
	slices.Reverse(turned)
	mixed := slices.Concat(want, turned)
	rand.New(rand.NewSource(13)).Shuffle(len(mixed), func(i, k int) { mixed[i], mixed[k] = mixed[k], mixed[i] })
	for what, l := range map[string][]string{"sorted already": want, "turned round": turned, "mixed, each twice": mixed} {
		if !slices.Equal(names.Sorted(l), want) || !slices.Equal(names.Join(l, turned), want) {
			t.Errorf("a long list, %s, is not Sorted", what)
		}
	}
}

func wantHas(t *testing.T, l []string, s string, want bool) {
	t.Helper()
	if names.Has(l, s) != want {
		t.Errorf("Has(%q, %q) is not %v", l, s, want)
	}
}

// P10.1: Has of each text of a list, wherever it stands, and of those between and beyond.
func TestHas(t *testing.T) {
	for _, s := range []string{"", "a", "\xff"} {
		wantHas(t, nil, s, false)
		wantHas(t, []string{}, s, false)
		wantHas(t, make([]string, 3)[:0], s, false)
	}
	all := []string{"", "a", "a.b", "a_", "b", "ba", "c.d", "\x80", "\xff"}
	not := []string{"\x00", "A", "Z", "a.", "a.a", "a.b.c", "a0", "aa", "a_b", "b.", "bb", "c", "c.c", "c.e", "d", "\x7f", "\x80a", "\x81", "\xff\x00", "\xff\xff"}
	for from := range len(all) + 1 {
		for to := from; to <= len(all); to++ {
			l := all[from:to]
			for i, s := range all {
				wantHas(t, l, s, i >= from && i < to)
			}
			for _, s := range not {
				wantHas(t, l, s, false)
			}
		}
	}
	for n := range 40 { // lists of each length, each place in them
		var l []string
		for i := range n {
			l = append(l, string([]byte{'b' + byte(2*i)}))
		}
		for b := range 256 {
			wantHas(t, l, string([]byte{byte(b)}), b >= 'b' && b < 'b'+2*n && (b-'b')%2 == 0)
		}
	}
}

// R1: Has of a list that is not Sorted ends, and tells of none that is not there.
func TestHasUnsorted(t *testing.T) {
	for _, l := range [][]string{{"c", "b", "a"}, {"a", "a", "a"}, {"b", "", "b", "a", "\xff", ""}, make([]string, 1000)} {
		names.Has(l, l[0])
		for _, s := range []string{"x", "\x00", "bb", "\xff\xff"} {
			wantHas(t, l, s, false)
		}
	}
}

// roomy: the same, in a list with spare room, in which marks stand.
func roomy(l []string) []string {
	out := append(make([]string, 0, len(l)+3), l...)
	copy(out[len(l):cap(out)], []string{"mark", "mark", "mark"})
	return out
}

// wantAsItWas: a list that roomy made of was is as it was, its spare room too.
func wantAsItWas(t *testing.T, what string, l, was []string) {
	t.Helper()
	if !slices.Equal(l, was) || !slices.Equal(l[len(l):cap(l)], []string{"mark", "mark", "mark"}) {
		t.Errorf("%s: what was handed in is now %q, with %q behind it", what, l, l[len(l):cap(l)])
	}
}

// R3: what is handed in is as it was, what is told has lists of its own, and so has it when it is told again.
func TestListsAreNew(t *testing.T) {
	for _, x := range [][2][]string{
		{nil, nil}, {{"a"}, nil}, {nil, {"a"}}, {{"a", "b", "c"}, {"d", "e"}}, {{"c", "a", "b", "a"}, {"b", "", "a"}}, {{"b", "b"}, {"b"}}, {{"a", "b"}, {"a", "b"}}, {{"", "\xff"}, {"a."}},
	} {
		a, b := roomy(x[0]), roomy(x[1])
		for what, call := range map[string]func() []string{
			"Sorted": func() []string { return names.Sorted(a) }, "Join": func() []string { return names.Join(a, b) }, "Join with itself": func() []string { return names.Join(a, a) }, "Join with a piece of itself": func() []string { return names.Join(a, a[:len(a)/2]) },
		} {
			first, second := call(), call()
			was := slices.Clone(second)
			for _, told := range [][]string{first, first[:cap(first)]} {
				for i := range told {
					told[i] = "scrawl"
				}
				_ = append(told, "scrawl", "scrawl")
			}
			wantAsItWas(t, what, a, x[0])
			wantAsItWas(t, what, b, x[1])
			wantList(t, what+", told twice", second, was)
			for i := range a {
				a[i] = "later"
			}
			wantList(t, what+", what was handed in is written into", second, was)
			copy(a, x[0])
		}
		names.Has(a, "b")
		wantAsItWas(t, "Has", a, x[0])
	}
}

// R3: texts that are told lie in memory of their own: what they were cut out of may be far greater.
func TestTextsAreNew(t *testing.T) {
	whole := strings.Repeat("abc.", 1000)
	l := []string{whole[4:7], whole[:2], whole[:3], whole}
	for what, told := range map[string][]string{"Sorted": names.Sorted(l), "Join": names.Join(l[:2], l[2:])} {
		wantList(t, what, told, []string{"ab", "abc", whole})
		for _, s := range told {
			for _, given := range l {
				if unsafe.StringData(s) == unsafe.StringData(given) {
					t.Errorf("%s: %.9q lies where it was handed in", what, s)
				}
			}
		}
	}
}
