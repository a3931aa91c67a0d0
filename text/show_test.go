package text_test

import (
	"math"
	"math/rand"
	"reflect"
	"slices"
	"strconv"
	"strings"
	"testing"

	"touchstone/api"
	"touchstone/text"
)

// levelText: what the text of a level that may be is.
func levelText(l api.Level) string {
	s := "0SMIp"[l.Kind : l.Kind+1]
	if l.Kind == api.LevelParam {
		s += strconv.Itoa(l.N)
	}
	for _, a := range l.Args {
		s += levelText(a)
	}
	return s
}

// termText: what the text of a term is, were it as long as it liked.
func termText(t api.Term) string {
	switch t.Kind {
	case api.TermVar:
		return "#" + strconv.Itoa(t.N)
	case api.TermSort:
		return "*" + levelText(t.Levels[0])
	case api.TermConst:
		var levels []string
		for _, l := range t.Levels {
			levels = append(levels, levelText(l))
		}
		if len(levels) == 0 {
			return t.Name
		}
		return t.Name + "{" + strings.Join(levels, ",") + "}"
	case api.TermApp:
		return "(" + termText(t.Args[0]) + " " + termText(t.Args[1]) + ")"
	case api.TermLam:
		return `\` + termText(t.Args[0]) + ". " + termText(t.Args[1])
	case api.TermPi:
		return "!" + termText(t.Args[0]) + ". " + termText(t.Args[1])
	}
	return "=" + termText(t.Args[0]) + ":" + termText(t.Args[1]) + ". " + termText(t.Args[2])
}

// around: t in each place of terms of each kind, and deeper.
func around(t api.Term) (list []api.Term) {
	list = []api.Term{t, app(t, c), app(c, t), lam(t, c), lam(c, t), pi(t, c), pi(c, t), let(t, c, c), let(c, t, c), let(c, c, t)}
	return append(list, lam(c, app(let(c, pi(t, c), c), v(0))), app(app(c, c), app(c, pi(c, let(c, c, lam(c, t))))))
}

// P7.1: levels of each kind, shown.
func TestLevel(t *testing.T) {
	one := succ(zero)
	for want, l := range map[string]api.Level{
		"0": zero, "S0": one, "SS0": succ(one), "p0": param(0), "p1": param(1), "p2": param(2), "p3": param(3), "Sp3": succ(param(3)),
		"M0p0": level(api.LevelMax, zero, param(0)), "Mp00": level(api.LevelMax, param(0), zero), "I0p0": level(api.LevelImax, zero, param(0)), "Ip1S0": level(api.LevelImax, param(1), one),
		"MIp0p1SS0": level(api.LevelMax, level(api.LevelImax, param(0), param(1)), succ(one)), "Ip2MM0p1p3": level(api.LevelImax, param(2), level(api.LevelMax, level(api.LevelMax, zero, param(1)), param(3))),
	} {
		if got := text.Level(l); got != want {
			t.Errorf("Level: %q; want %q", got, want)
		}
	}
}

// badLevels: levels that may not be, each but for one thing.
func badLevels() []api.Level {
	deep, wide := zero, zero
	for range 32 {
		deep = succ(deep)
	}
	for range 32 {
		wide = level(api.LevelMax, wide, zero) // 33 deep, and of 65 parts
	}
	flat, _, _ := text.ParseLevel(bushy(63))
	list := []api.Level{
		{Kind: -1}, {Kind: 5}, {Kind: 7}, {Kind: math.MaxInt}, {Kind: math.MinInt}, {Kind: api.LevelParam, N: 4}, {Kind: api.LevelParam, N: -1}, {Kind: api.LevelParam, N: 10}, {Kind: api.LevelParam, N: math.MinInt},
		{N: 1}, {Kind: api.LevelSucc, N: 1, Args: []api.Level{zero}}, {Kind: api.LevelMax, N: -1, Args: []api.Level{zero, zero}}, {Kind: api.LevelImax, N: 2, Args: []api.Level{zero, zero}},
		level(api.LevelZero, zero), level(api.LevelParam, zero), level(api.LevelSucc), level(api.LevelSucc, zero, zero), level(api.LevelMax), level(api.LevelMax, zero), level(api.LevelMax, zero, zero, zero), level(api.LevelImax, zero), level(api.LevelImax, zero, zero, zero),
		deep, wide, succ(succ(flat)), level(api.LevelMax, flat, zero), level(api.LevelImax, zero, flat),
	}
	for _, l := range slices.Clone(list) {
		list = append(list, succ(l), level(api.LevelMax, zero, l), level(api.LevelImax, l, zero))
	}
	return list
}

// P7.1: Level of what may not be is empty; of what just may be, it is not.
func TestLevelOfNone(t *testing.T) {
	for _, l := range badLevels() {
		if got := text.Level(l); got != "" {
			t.Errorf("Level(%v): %q", l, got)
		}
	}
	for _, want := range []string{strings.Repeat("S", 31) + "0", strings.Repeat("S", 31) + "p3", "S" + bushy(63), "I" + bushy(31) + bushy(31) + "", strings.Repeat("M0", 31) + "0"} {
		l, _, e := text.ParseLevel(want)
		if got := text.Level(l); got != want || e != api.OK {
			t.Errorf("Level: %q; want %q (%d)", got, want, e)
		}
	}
}

// P7.1: terms of each kind, shown, with just the blanks that it names.
func TestShow(t *testing.T) {
	one := succ(zero)
	n24 := strings.Repeat("n", 24)
	for want, x := range map[string]api.Term{
		"#0": v(0), "#7": v(7), "#10": v(10), "#1000000": v(1000000), "#9999999": v(9999999),
		"*0": prop, "*S0": sort(one), "*p3": sort(param(3)), "*MS0p1": sort(level(api.LevelMax, one, param(1))), "*Ip0p1": sort(level(api.LevelImax, param(0), param(1))),
		"c": c, "a.b_1": con("a.b_1"), "S": con("S"), "p0": con("p0"), "a.b.C9_": con("a.b.C9_"), "a_.b": con("a_.b"), "a1.b": con("a1.b"), n24: con(n24), n24[:22] + ".a": con(n24[:22] + ".a"),
		"c{0}": con("c", zero), "c{0,S0}": con("c", zero, one), "c{p0,p1,p2,p3}": con("c", param(0), param(1), param(2), param(3)), "a.b{M00,I0S0}": con("a.b", level(api.LevelMax, zero, zero), level(api.LevelImax, zero, one)),
		"(f a)": app(con("f"), con("a")), "(#0 #1)": app(v(0), v(1)), "((f a) b)": app(app(con("f"), con("a")), con("b")), "(f (a b))": app(con("f"), app(con("a"), con("b"))), "(f{0} #1)": app(con("f", zero), v(1)), "(*0 *S0)": app(prop, sort(one)), "(f{0} g{S0,p1})": app(con("f", zero), con("g", one, param(1))),
		`\a. b`: lam(con("a"), con("b")), `\*0. #0`: lam(prop, v(0)), `\\a. b. \c. #1`: lam(lam(con("a"), con("b")), lam(c, v(1))),
		"!*0. #0": pi(prop, v(0)), "!a. !b. #1": pi(con("a"), pi(con("b"), v(1))), "!!a. b. c": pi(pi(con("a"), con("b")), c),
		"=a:b. c": let(con("a"), con("b"), c), "=*0:c{0}. #0": let(prop, con("c", zero), v(0)), "==a:b. c:=a:b. c. =a:b. c": let(let(con("a"), con("b"), c), let(con("a"), con("b"), c), let(con("a"), con("b"), c)),
		`(\a. (f #0) !#3. =a:b. *0)`: app(lam(con("a"), app(con("f"), v(0))), pi(v(3), let(con("a"), con("b"), prop))),
	} {
		if got := text.Show(x); got != want {
			t.Errorf("Show: %q; want %q", got, want)
		}
		if x.Kind == api.TermVar { // nil and an empty list are one
			x.Args, x.Levels = []api.Term{}, []api.Level{}
			if got := text.Show(x); got != want {
				t.Errorf("Show, with empty lists: %q; want %q", got, want)
			}
		}
	}
}

// badTerms: terms that have no text, each by itself, but for one thing.
func badTerms() (list []api.Term) {
	whole := []api.Term{v(0), prop, c, app(c, c), lam(c, c), pi(c, c), let(c, c, c)}
	for kind, x := range whole {
		more, less, numbered, named, two := x, x, x, x, x
		more.Args = append(slices.Clone(x.Args), c)
		numbered.N = 1
		named.Name = "c"
		two.Levels = []api.Level{zero, zero}
		list = append(list, more)
		if len(x.Args) > 0 {
			less.Args = x.Args[:len(x.Args)-1]
			list = append(list, less, of(kind))
		}
		if kind != api.TermVar {
			list = append(list, numbered)
		}
		if kind != api.TermConst {
			list = append(list, named, two)
		}
		if kind != api.TermConst && kind != api.TermSort {
			two.Levels = two.Levels[:1]
			list = append(list, two)
		}
	}
	for _, kind := range []int{-1, 7, 8, 9, math.MaxInt, math.MinInt} {
		list = append(list, api.Term{Kind: kind}, of(kind, c, c))
	}
	for _, n := range []int{-1, 10000000, 10000001, 99999999, 1 << 30, 1<<30 + 1, math.MaxInt, math.MinInt} {
		list = append(list, v(n))
	}
	for _, name := range badNames() {
		list = append(list, con(name), con(name, zero))
	}
	for _, l := range badLevels() {
		list = append(list, sort(l), con("c", l), con("c", zero, zero, zero, l), con("c", l, zero))
	}
	return append(list, api.Term{Kind: api.TermSort}, con("c", zero, zero, zero, zero, zero), con("c", make([]api.Level, 1000)...))
}

// badNames: what is no name.
func badNames() (list []string) {
	n := strings.Repeat("n", 100)
	list = []string{"", "1", "1a", "_", "_a", ".", ".a", "a.", "a..b", "a.1", "a._", "a.b.", "a.b.1", "a b", " a", "a ", "\na", "a\n", "a-b", "a{0}", "é", "aé", "a.é", "#0", "*0", "a\x00", "\x00", "\xff", "a:", n[:25], n, n[:24] + ".a", n[:23] + ".a", n[:23] + ".", "a[", "a`", "a@", "a/", "@", "[", "`", "{"}
	return append(list, n[:24]+" ", n[:24]+"_")
}

// P7.1: what has no text, by itself and as a part of another term, is shown as nothing.
func TestShowOfNone(t *testing.T) {
	for _, bad := range badTerms() {
		for i, x := range around(bad) {
			if got := text.Show(x); got != "" {
				t.Errorf("Show of %v, place %d: %q", bad, i, got)
			}
		}
	}
	for _, fine := range []api.Term{v(9999999), sort(param(3)), con("c", zero, zero, zero, zero), con(strings.Repeat("n", 24)), con("z.Z_9")} {
		for _, x := range around(fine) {
			if got, want := text.Show(x), termText(x); got != want {
				t.Errorf("Show: %q; want %q", got, want)
			}
		}
	}
}

// P7.1: every name of one, two and three bytes out of some, held against its rule.
func TestShowNames(t *testing.T) {
	bytes := "azAZ09_. @[`{/:\x00\xff"
	isLetter := func(b byte) bool { return strings.IndexByte("azAZ", b) >= 0 }
	isName := func(s string) bool {
		if !isLetter(s[0]) {
			return false
		}
		for i := 1; i < len(s); i++ {
			if strings.IndexByte("azAZ09_.", s[i]) < 0 || s[i] == '.' && (i+1 == len(s) || !isLetter(s[i+1])) {
				return false
			}
		}
		return true
	}
	names := []string{""}
	for range 4 {
		var longer []string
		for _, n := range names {
			for i := range len(bytes) {
				s := n + bytes[i:i+1]
				want := ""
				if isName(s) {
					want = s
				}
				if got := text.Show(con(s)); got != want {
					t.Errorf("Show of the name %q: %q", s, got)
				}
				longer = append(longer, s)
			}
		}
		names = longer
	}
}

// P7.1: a text of MaxText bytes is told, and one that is longer is not, whatever it ends with.
func TestShowLength(t *testing.T) {
	told, none := 0, 0
	ends := []api.Term{v(0), v(9999999), prop, sort(param(2)), con("c", zero), con("c", succ(zero), param(1), param(2)), app(c, c), lam(prop, c), pi(c, v(0)), let(c, c, c), let(c, prop, sort(succ(zero)))}
	for n := 1; n <= 24; n++ {
		ends = append(ends, con(strings.Repeat("n", n)))
	}
	for _, end := range ends {
		for _, wrap := range []func(api.Term) api.Term{
			func(x api.Term) api.Term { return app(x, c) },
			func(x api.Term) api.Term { return app(v(0), x) },
			func(x api.Term) api.Term { return lam(prop, x) },
			func(x api.Term) api.Term { return lam(x, c) },
			func(x api.Term) api.Term { return pi(c, x) },
			func(x api.Term) api.Term { return let(c, x, c) },
			func(x api.Term) api.Term { return let(prop, prop, x) },
		} {
			x, s := end, termText(end)
			step := len(termText(wrap(end))) - len(s)
			for size := len(s); size <= api.MaxText+step; size += step {
				want := ""
				if size > api.MaxText-step && size <= api.MaxText {
					want = termText(x)
				}
				if size > api.MaxText-step {
					if got := text.Show(x); got != want {
						t.Fatalf("Show of a text of %d bytes: %.40q, of %d", size, got, len(got))
					}
				}
				if size == api.MaxText {
					told++
				}
				if size == api.MaxText+1 {
					none++
				}
				x = wrap(x)
			}
		}
	}
	if told < 10 || none < 10 {
		t.Errorf("%d texts of MaxText bytes, %d of one more: they tell little", told, none)
	}
}

// P7.1: how deep a term is does not matter to Show; what is shown is read as the same, but if it is too deep.
func TestShowDeep(t *testing.T) {
	for _, deep := range []int{99, 100, 101, 500, 1000} {
		x := c
		for range deep - 1 {
			x = pi(c, x)
		}
		s := strings.Repeat("!c. ", deep-1) + "c"
		if got := text.Show(x); got != s {
			t.Errorf("Show of a term %d deep: %.40q", deep, got)
		}
		_, place, e := text.Parse(s)
		if deep <= api.MaxDepth && (e != api.OK || place != 0) || deep > api.MaxDepth && (e != api.ErrDeep || place != 4*99+1) {
			t.Errorf("Parse of a term %d deep: %d, %d", deep, place, e)
		}
	}
}

// P7.1, and what follows: what is drawn is shown as it must be, and read as the same.
func TestShowDrawn(t *testing.T) {
	r := rand.New(rand.NewSource(9))
	long, great := 0, 0
	for range 5000 {
		w := writer{Rand: r}
		x := w.term(1 + r.Intn(20))
		want := termText(x)
		if len(want) > api.MaxText {
			want = ""
			long++
		}
		if got := text.Show(x); got != want {
			t.Fatalf("Show: %q; want %q", got, want)
		}
		if want == "" {
			continue
		}
		if got, place, e := text.Parse(want); !same(got, x) || place != 0 || e != api.OK {
			t.Fatalf("Parse(%q): %v, %d, %d", want, got, place, e)
		}
		if len(want) > 200 {
			great++
		}
	}
	for range 1000 {
		w := writer{Rand: r}
		l := w.level(5)
		s := text.Level(l)
		if got, place, e := text.ParseLevel(s); s != levelText(l) || !sameLevel(got, l) || place != 0 || e != api.OK {
			t.Fatalf("Level: %q, read as %v, %d, %d", s, got, place, e)
		}
	}
	if great < 200 || long < 20 {
		t.Fatalf("%d great ones, %d too long: the draws tell little", great, long)
	}
}

// R1: terms without end, terms that are written out of few lists, and great ones.
func TestShowWhatever(t *testing.T) {
	for kind, n := range []int{0, 0, 0, 2, 2, 2, 3} {
		for at := range n {
			ring := of(kind, slices.Repeat([]api.Term{c}, n)...)
			ring.Args[at] = ring
			if got := text.Show(ring); got != "" {
				t.Errorf("Show of a ring of kind %d: %.40q", kind, got)
			}
		}
	}
	endless := []api.Level{{Kind: api.LevelSucc}}
	endless[0].Args = endless
	if got := text.Level(endless[0]) + text.Show(sort(endless[0])) + text.Show(con("c", endless[0])); got != "" {
		t.Errorf("a level without end: %.40q", got)
	}
	doubled, chain := c, c
	for range 80 {
		doubled = app(doubled, doubled)
	}
	for range 70000 {
		chain = lam(chain, c)
	}
	twoLevels := zero
	for range 80 {
		twoLevels = level(api.LevelMax, twoLevels, twoLevels)
	}
	for _, x := range []api.Term{doubled, chain, sort(twoLevels), con("c", twoLevels), con(strings.Repeat("n", 1<<22)), con("c", make([]api.Level, 1<<20)...), of(api.TermApp, make([]api.Term, 1<<20)...)} {
		if got := text.Show(x); got != "" {
			t.Errorf("Show: %.40q", got)
		}
	}
	if got := text.Level(twoLevels); got != "" {
		t.Errorf("Level: %.40q", got)
	}
}

// R3, R4: what is handed in is as it was, and shown the same again.
func TestShowChangesNothing(t *testing.T) {
	fresh := func() api.Term {
		x, _, _ := text.Parse(`(\c{S0,Mp0p1}. =*p2:#0. (f{I0p3} #1) !a.b. #0)`)
		x.Args = append(make([]api.Term, 0, 9), x.Args...)
		x.Args[0].Args[0].Levels = append(make([]api.Level, 0, 9), x.Args[0].Args[0].Levels...)
		return x
	}
	x, y := fresh(), fresh()
	first := text.Show(x)
	if text.Show(x) != first || first != `(\c{S0,Mp0p1}. =*p2:#0. (f{I0p3} #1) !a.b. #0)` {
		t.Errorf("Show: %q, then %q", first, text.Show(x))
	}
	if !reflect.DeepEqual(x, y) || !reflect.DeepEqual(x.Args[:9], y.Args[:9]) || !reflect.DeepEqual(x.Args[0].Args[0].Levels[:9], y.Args[0].Args[0].Levels[:9]) {
		t.Errorf("Show changed what it was handed: %v", x)
	}
}
