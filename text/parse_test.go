package text_test

import (
	"fmt"
	"math/rand"
	"slices"
	"strconv"
	"strings"
	"testing"

	"touchstone/api"
	"touchstone/text"
)

var (
	zero = api.Level{}
	prop = sort(zero)
	c    = con("c")
)

func param(n int) api.Level { return api.Level{Kind: api.LevelParam, N: n} }

func level(kind int, args ...api.Level) api.Level { return api.Level{Kind: kind, Args: args} }

func succ(l api.Level) api.Level { return level(api.LevelSucc, l) }

func v(n int) api.Term { return api.Term{Kind: api.TermVar, N: n} }

func sort(l api.Level) api.Term { return api.Term{Kind: api.TermSort, Levels: []api.Level{l}} }

func con(name string, levels ...api.Level) api.Term {
	return api.Term{Kind: api.TermConst, Name: name, Levels: levels}
}

func of(kind int, args ...api.Term) api.Term { return api.Term{Kind: kind, Args: args} }

func app(f, a api.Term) api.Term { return of(api.TermApp, f, a) }

func lam(a, b api.Term) api.Term { return of(api.TermLam, a, b) }

func pi(a, b api.Term) api.Term { return of(api.TermPi, a, b) }

func let(a, b, c api.Term) api.Term { return of(api.TermLet, a, b, c) }

func sameLevel(a, b api.Level) bool {
	return a.Kind == b.Kind && a.N == b.N && slices.EqualFunc(a.Args, b.Args, sameLevel)
}

func same(a, b api.Term) bool {
	return a.Kind == b.Kind && a.N == b.N && a.Name == b.Name && slices.EqualFunc(a.Levels, b.Levels, sameLevel) && slices.EqualFunc(a.Args, b.Args, same)
}

// P7.2: texts of each kind of term, with as few blanks as may be, and with more.
func TestParse(t *testing.T) {
	for s, want := range map[string]api.Term{
		"#0": v(0), "#1": v(1), "#10": v(10), "#9999999": v(9999999), " #7\n": v(7), "\n \n#7 ": v(7),
		"*0": prop, "* 0": prop, "*p3": sort(param(3)), "*S0": sort(succ(zero)), "*MS0p1": sort(level(api.LevelMax, succ(zero), param(1))), "* I p0 \n S p2": sort(level(api.LevelImax, param(0), succ(param(2)))),
		"c": c, "S": con("S"), "p0": con("p0"), "Mx": con("Mx"), "a.b": con("a.b"), "a.b.c": con("a.b.c"), "a_1": con("a_1"), "a_": con("a_"), "a__b": con("a__b"), "Z9.z_": con("Z9.z_"), "a1b2": con("a1b2"), strings.Repeat("n", 24): con(strings.Repeat("n", 24)),
		"c{0}": con("c", zero), "c { 0 , S0 }": con("c", zero, succ(zero)), "c{p0,p1,p2,p3}": con("c", param(0), param(1), param(2), param(3)), "c{M0 0,I00}": con("c", level(api.LevelMax, zero, zero), level(api.LevelImax, zero, zero)),
		"(f a)": app(con("f"), con("a")), "(f#0)": app(con("f"), v(0)), "(#0#1)": app(v(0), v(1)), "(#0 f)": app(v(0), con("f")), "( f\na )": app(con("f"), con("a")), "(*0c)": app(prop, c), "(*p1c)": app(sort(param(1)), c), "(c{0}c)": app(con("c", zero), c), "((f a)b)": app(app(con("f"), con("a")), con("b")), "(f{0} #1)": app(con("f", zero), v(1)),
		`\*0. #0`: lam(prop, v(0)), `\*0.#0`: lam(prop, v(0)), `\ a . a`: lam(con("a"), con("a")), `\a. b`: lam(con("a"), con("b")), `\a .b`: lam(con("a"), con("b")), `\#0.b`: lam(v(0), con("b")), `\a.#0`: lam(con("a"), v(0)), `\a.b.c.(d e)`: lam(con("a.b.c"), app(con("d"), con("e"))), `\a{0}.b`: lam(con("a", zero), con("b")),
		"!*0. #0": pi(prop, v(0)), "!c.!c.#1": pi(c, pi(c, v(1))), "!!c. #0.#0": pi(pi(c, v(0)), v(0)),
		"=*0:c. #0": let(prop, c, v(0)), "=a:b.#0": let(con("a"), con("b"), v(0)), "= a : b . c": let(con("a"), con("b"), c), "=#1:#2.c": let(v(1), v(2), c), "=a:b.c. d": let(con("a"), con("b.c"), con("d")),
	} {
		got, place, e := text.Parse(s)
		if !same(got, want) || place != 0 || e != api.OK {
			t.Errorf("Parse(%q): %v, %d, %d", s, got, place, e)
		}
	}
}

// fault: a text, and where and why it says nothing.
type fault struct {
	text  string
	place int
	why   api.Errno
}

func (f fault) run(t *testing.T) {
	t.Helper()
	got, place, e := text.Parse(f.text)
	if !same(got, api.Term{}) || place != f.place || e != f.why {
		t.Errorf("Parse(%.60q): %v, %d, %d; want %d, %d", f.text, got, place, e, f.place, f.why)
	}
}

// P7.2: ErrForm, and the first byte that cannot stand there.
func TestParseForm(t *testing.T) {
	for _, f := range []fault{
		{text: "", place: 0}, {text: " \n", place: 2}, {text: "#", place: 1}, {text: "*", place: 1}, {text: "(", place: 1}, {text: "(c", place: 2}, {text: "(c c", place: 4}, {text: `\`, place: 1}, {text: `\c`, place: 2}, {text: `\c.`, place: 3},
		{text: "!c", place: 2}, {text: "=c", place: 2}, {text: "=c:", place: 3}, {text: "=c:c", place: 4}, {text: "=c:c.", place: 5}, {text: "c{", place: 2}, {text: "c{0", place: 3}, {text: "c{0,", place: 4}, {text: "*S", place: 2}, {text: "*M0", place: 3}, {text: "*p", place: 2},
		{text: "?", place: 0}, {text: "1", place: 0}, {text: "_a", place: 0}, {text: ".a", place: 0}, {text: "{0}", place: 0}, {text: ")", place: 0}, {text: "\x00", place: 0}, {text: "\t#0", place: 0}, {text: "é", place: 0}, {text: "cé", place: 1}, {text: "c\x00", place: 1},
		{text: "# 0", place: 1}, {text: "#c", place: 1}, {text: "#-1", place: 1}, {text: "#01", place: 2}, {text: "#00", place: 2}, {text: "#000000000", place: 2}, {text: "#0c", place: 2}, {text: "(#0c)", place: 3}, {text: "(#12c)", place: 4}, {text: "#1 2", place: 3}, {text: "#1_", place: 2},
		{text: "*p 0", place: 2}, {text: "*px", place: 2}, {text: "*1", place: 1}, {text: "*c", place: 1}, {text: "*00", place: 2}, {text: "*p12", place: 3}, {text: "*s0", place: 1}, {text: "*P0", place: 1}, {text: "*S#0", place: 2},
		{text: "c c", place: 2}, {text: "c)", place: 1}, {text: "c.", place: 1}, {text: "a.1", place: 1}, {text: "a._", place: 1}, {text: "a..b", place: 1}, {text: "a. b", place: 1}, {text: "a b", place: 2}, {text: "a-b", place: 1},
		{text: "()", place: 1}, {text: "(c)", place: 2}, {text: "(c c c)", place: 5}, {text: "(c c]", place: 4}, {text: `\a.b`, place: 4}, {text: `\a.b c`, place: 5}, {text: `\.c`, place: 1}, {text: `\c:c`, place: 2}, {text: "!a.b", place: 4}, {text: "=c.c", place: 4}, {text: "=c. c", place: 2}, {text: "=c:c:c", place: 4}, {text: "=a:b.c", place: 6},
		{text: "c{}", place: 2}, {text: "c{,0}", place: 2}, {text: "c{0,}", place: 4}, {text: "c{0 0}", place: 4}, {text: "c{00}", place: 3}, {text: "c{c}", place: 2}, {text: "c{0}{0}", place: 4}, {text: "c{0,0,0,0,}", place: 10}, {text: "c{0,0,0,0,x", place: 10}, {text: "c{0,0,0,0 0}", place: 10}, {text: "#0{0}", place: 2}, {text: "*0{0}", place: 2},
	} {
		f.why = api.ErrForm
		f.run(t)
	}
}

// deepText: a text of a term that is 1 more than deep (an even number) deep.
func deepText(deep int) string {
	return strings.Repeat("!c.(c", deep/2) + " c" + strings.Repeat(")", deep/2)
}

// wideText: a text of a term with so many leaves, and twice as many parts but one.
func wideText(leaves int) string {
	switch leaves {
	case 1:
		return "c"
	case 2:
		return "(c#0)"
	}
	left := wideText(leaves / 2)
	right := wideText(leaves - leaves/2)
	if strings.HasSuffix(left, ")") || strings.HasPrefix(right, "(") {
		return "(" + left + right + ")"
	}
	return "(" + left + " " + right + ")"
}

// P7.2: ErrLevel, ErrLong and ErrDeep, each at its edge and where it is told.
func TestParseLimits(t *testing.T) {
	n24, n25 := strings.Repeat("n", 24), strings.Repeat("n", 25)
	deep := strings.Repeat("!c.", 99)
	wide := wideText(1000) // 1999 parts
	for _, f := range []fault{
		{"*p4", 2, api.ErrLevel}, {"*p9", 2, api.ErrLevel}, {"*Sp4x", 3, api.ErrLevel}, {"c{0,p5}", 5, api.ErrLevel}, {"(c{p4} ?", 4, api.ErrLevel},
		{"c{0,0,0,0,0}", 10, api.ErrLevel}, {"c{0,0,0,0, \n S0}", 13, api.ErrLevel}, {"c{0,0,0,0,p9}", 10, api.ErrLevel}, {"c{0,0,0,0,M?", 10, api.ErrLevel},
		{n25, 0, api.ErrLong}, {"  " + n25 + "?", 2, api.ErrLong}, {"(c " + n24 + "_ )", 3, api.ErrLong}, {n24 + ".a", 0, api.ErrLong}, {n24 + ".", 24, api.ErrForm}, {n24[:23] + ".a", 0, api.ErrLong}, {n24 + "{", 25, api.ErrForm},
		{"#12345678", 1, api.ErrLong}, {"(c #10000000?", 4, api.ErrLong}, {"#1234567c", 8, api.ErrForm},
		{deep + "!c. c", 298, api.ErrDeep}, {deep + "(c c)", 298, api.ErrDeep}, {deep + "?", 297, api.ErrForm}, {deep + "", 297, api.ErrForm}, {deep + "!?", 298, api.ErrForm}, {deep + "!" + n25, 298, api.ErrDeep}, {deep + "!#x", 298, api.ErrDeep},
		{"!" + wide + ".#0", len(wide) + 2, api.ErrLong}, {"(" + wide + " " + n25, len(wide) + 2, api.ErrLong}, {"(" + wide + " ?", len(wide) + 2, api.ErrForm}, {"(" + wide + " " + deep, len(wide) + 2, api.ErrLong},
		{strings.Repeat("?", 4001), 0, api.ErrLong}, {strings.Repeat(" ", 3999) + "c ", 0, api.ErrLong}, {strings.Repeat("?", 4000), 0, api.ErrForm}, {strings.Repeat(" ", 4000), 4000, api.ErrForm},
	} {
		f.run(t)
	}
	// The part that is too many, and too deep as well, or too deep alone.
	for leaves, why := range map[int]api.Errno{900: api.ErrLong, 899: api.ErrDeep} {
		s := "!=c:c." + wideText(leaves) + "." + strings.Repeat("!c.", 98) + "("
		fault{s + "c", len(s), why}.run(t)
	}
	for _, s := range []string{deep + "#98", deepText(98), wide, "=" + wideText(999) + ":c.#0", strings.Repeat(" ", 3999) + "c", "c" + strings.Repeat("\n", 3999), n24 + "{p3}", "#9999999"} {
		if _, place, e := text.Parse(s); place != 0 || e != api.OK {
			t.Errorf("Parse(%.60q): %d, %d", s, place, e)
		}
	}
}

// P7.2: the depth of a level, and its parts, are its own, and not those of the term or of another level.
func TestParseLevelLimits(t *testing.T) {
	deep, wide := strings.Repeat("S", 31), "S"+bushy(63)
	for _, f := range []fault{
		{deep + "S0", 32, api.ErrDeep}, {deep + "p4", 32, api.ErrLevel}, {deep + "S?", 32, api.ErrForm}, {deep + "?", 31, api.ErrForm},
		{"S" + wide, 64, api.ErrLong}, {"M" + wide + "?", 64, api.ErrLong}, {"M" + bushy(63) + "p9", 64, api.ErrLong}, {"M" + bushy(63) + "?", 64, api.ErrForm},
		{"", 0, api.ErrForm}, {"x", 0, api.ErrForm}, {"0 0", 2, api.ErrForm}, {"p", 1, api.ErrForm}, {"p4", 1, api.ErrLevel}, {"M0", 2, api.ErrForm}, {strings.Repeat("?", 4001), 0, api.ErrLong}, {strings.Repeat("?", 4000), 0, api.ErrForm},
	} {
		got, place, e := text.ParseLevel(f.text)
		if !sameLevel(got, zero) || place != f.place || e != f.why {
			t.Errorf("ParseLevel(%q): %v, %d, %d; want %d, %d", f.text, got, place, e, f.place, f.why)
		}
		if f.text == "" || len(f.text) > 3000 || f.text == "0 0" || f.text == "x" {
			continue
		}
		for _, ahead := range []string{"*", "c{0,", "(c{" + wide + "," + wide + "} *", strings.Repeat("!c.", 99) + "*"} {
			fault{ahead + f.text, len(ahead) + f.place, f.why}.run(t)
		}
	}
	for _, l := range []string{deep + "0", deep + "p3", wide, "M" + bushy(31) + bushy(31)} {
		if _, place, e := text.ParseLevel(l); place != 0 || e != api.OK {
			t.Errorf("ParseLevel(%q): %d, %d", l, place, e)
		}
		for _, s := range []string{"*" + l, "c{" + l + "," + l + "," + l + "," + l + "}", strings.Repeat("!c.", 99) + "*" + l} {
			if _, place, e := text.Parse(s); place != 0 || e != api.OK {
				t.Errorf("Parse(%q): %d, %d", s, place, e)
			}
		}
	}
}

// bushy: a text of a level of so many parts (an odd number), as flat as can be.
func bushy(parts int) string {
	if parts == 1 {
		return "0"
	}
	left := (parts - 1) / 2
	if left%2 == 0 {
		left--
	}
	return "M" + bushy(left) + bushy(parts-1-left)
}

// P7.2: ParseLevel of each kind, with blanks.
func TestParseLevel(t *testing.T) {
	for s, want := range map[string]api.Level{
		"0": zero, " 0\n": zero, "p0": param(0), "p3": param(3), "S0": succ(zero), "S S\np1": succ(succ(param(1))), "M0p0": level(api.LevelMax, zero, param(0)), "I 0 M p1 S0": level(api.LevelImax, zero, level(api.LevelMax, param(1), succ(zero))),
		"IIp0p1p2": level(api.LevelImax, level(api.LevelImax, param(0), param(1)), param(2)),
	} {
		got, place, e := text.ParseLevel(s)
		if !sameLevel(got, want) || place != 0 || e != api.OK {
			t.Errorf("ParseLevel(%q): %v, %d, %d", s, got, place, e)
		}
	}
}

// writer writes terms as texts, with blanks as they are drawn.
type writer struct {
	*rand.Rand
	b strings.Builder
}

// blanks: some blanks, or none.
func (w *writer) blanks() {
	for w.Intn(3) == 0 {
		w.b.WriteByte(" \n"[w.Intn(2)])
	}
}

// sign: a sign, with blanks ahead; word: one that needs a blank, where a letter or a digit follows.
func (w *writer) sign(s string) {
	w.blanks()
	w.b.WriteString(s)
}

func (w *writer) word(s string) {
	w.sign(s)
	w.b.WriteByte(' ')
}

func (w *writer) level(deep int) api.Level {
	k := w.Intn(5)
	if deep <= 1 && (k == 1 || k == 2 || k == 3) {
		k = 0
	}
	switch k {
	case api.LevelZero:
		w.sign("0")
		return zero
	case api.LevelParam:
		n := w.Intn(4)
		w.sign("p" + strconv.Itoa(n))
		return param(n)
	}
	w.sign(" SMI"[k : k+1])
	l := level(k, w.level(deep-1))
	if k > 1 {
		l.Args = append(l.Args, w.level(deep-1))
	}
	return l
}

func (w *writer) term(deep int) api.Term {
	k := w.Intn(7)
	if deep <= 1 {
		k %= 3
	}
	t := api.Term{Kind: k}
	signs := []string{"", "", "", "()", `\.`, "!.", "=:."}[k]
	switch k {
	case api.TermVar:
		t.N = w.Intn([]int{2, 20, 10000000}[w.Intn(3)])
		w.word("#" + strconv.Itoa(t.N))
		return t
	case api.TermSort:
		w.sign("*")
		t.Levels = append(t.Levels, w.level(3))
		return t
	case api.TermConst:
		t.Name = []string{"a", "B", "a.b", "x_1.Y2", "S0", "p9_"}[w.Intn(6)]
		w.word(t.Name)
		for i := range w.Intn(5) {
			w.sign("{,,,"[i : i+1])
			t.Levels = append(t.Levels, w.level(3))
		}
		if len(t.Levels) > 0 {
			w.sign("}")
		}
		return t
	case api.TermApp:
		w.sign("(")
		t.Args = append(t.Args, w.term(deep-1), w.term(deep-1))
		w.sign(")")
		return t
	}
	for _, s := range signs {
		w.sign(string(s))
		t.Args = append(t.Args, w.term(deep-1))
	}
	return t
}

// P7.2: drawn terms are read as they were written, with blanks as they are drawn.
func TestParseDrawn(t *testing.T) {
	r := rand.New(rand.NewSource(7))
	great := 0
	for range 5000 {
		w := writer{Rand: r}
		want := w.term(1 + r.Intn(6))
		w.blanks()
		s := w.b.String()
		if len(s) > api.MaxText {
			continue
		}
		got, place, e := text.Parse(s)
		if !same(got, want) || place != 0 || e != api.OK {
			t.Fatalf("Parse(%q): %v, %d, %d", s, got, place, e)
		}
		if len(s) > 100 {
			great++
		}
	}
	if great < 500 {
		t.Fatalf("%d great ones: the draws tell little", great)
	}
}

// R1, and P7.2: whatever the text, what stands ahead of the place of ErrForm could go on there.
func TestParsePlaces(t *testing.T) {
	r := rand.New(rand.NewSource(8))
	seen := map[api.Errno]int{}
	odd := "(){}*#\\!=:.,SMIp012399 ab_\n\x00\xff"
	for range 60000 {
		w := writer{Rand: r}
		w.term(1 + r.Intn(4))
		b := []byte(w.b.String())
		for range r.Intn(4) {
			at := r.Intn(len(b))
			switch r.Intn(3) {
			case 0:
				b = slices.Delete(b, at, min(at+1+r.Intn(3), len(b)))
			case 1:
				b[at] = odd[r.Intn(len(odd))]
			case 2:
				b = slices.Insert(b, at, odd[r.Intn(len(odd))])
			}
			if len(b) == 0 {
				break
			}
		}
		s := string(b)
		got, place, e := text.Parse(s)
		seen[e]++
		switch {
		case e == api.OK && place != 0, e != api.OK && !same(got, api.Term{}), place < 0 || place > len(s):
			t.Fatalf("Parse(%q): %v, %d, %d", s, got, place, e)
		case e == api.ErrForm:
			if _, p, e := text.Parse(s[:place]); e != api.OK && (e != api.ErrForm || p != place) {
				t.Fatalf("Parse(%q): place %d; its beginning: %d, %d", s, place, p, e)
			}
		}
	}
	if seen[api.OK] < 1000 || seen[api.ErrForm] < 1000 || seen[api.ErrLevel] < 20 {
		t.Fatalf("%v: the draws tell little", seen)
	}
}

// R1: every call ends, and none panics, whatever it is handed.
func TestWhatever(t *testing.T) {
	for _, sign := range []string{"(", "!", `\`, "=", "#", "*", "c", "c{", "c.", "*S", "*M", "*I", "*p", "S", "M", "0", " ", "c{0,", "\xff", "(!", "#9"} {
		for _, n := range []int{1, 2, 50, 1000, 2000, 4000, 100000} {
			s := strings.Repeat(sign, n)
			text.Parse(s)
			text.ParseLevel(s)
			if _, _, e := text.Parse(s); len(s) > api.MaxText && e != api.ErrLong {
				t.Errorf("%d of %q: %d", n, sign, e)
			}
		}
	}
}

// R3, R4: what is told is new memory, and the same again.
func TestParseIsNew(t *testing.T) {
	s := `\c{S0,p1}. (c{S0} #0)`
	one, _, _ := text.Parse(s)
	one.Args[0].Levels[0].Args[0].Kind = 9
	one.Args[1].Args[0] = v(5)
	two, _, _ := text.Parse(s)
	if !same(two, lam(con("c", succ(zero), param(1)), app(con("c", succ(zero)), v(0)))) {
		t.Errorf("Parse shares memory: %v", two)
	}
	if fmt.Sprint(two) == fmt.Sprint(one) {
		t.Error("nothing was written")
	}
}
