package text_test

import (
	"math/rand"
	"slices"
	"strings"
	"testing"

	"touchstone/api"
	"touchstone/text"
)

// signs: a text, sign by sign; a name and a number, each with its beginning, are signs as well.
type signs []string

// samples: texts of terms that have each kind of term, level, name and number, and each sign, among them.
func samples() []signs {
	return []signs{
		{"#0"}, {"#12"}, {"*", "0"}, {"*", "p3"}, {"c"}, {"a_1b"}, {"c", "{", "0", "}"},
		{"c", "{", "p0", ",", "S", "0", ",", "M", "p1", "0", ",", "I", "0", "p2", "}"},
		{"(", "*", "M", "S", "p0", "I", "0", "p1", "c2", ")"}, {"(", "(", "#1", "#20", ")", "*", "0", ")"},
		{`\`, "#3", ".", "c", "{", "S", "S", "0", "}"}, {"!", "*", "p1", ".", "!", "c", "{", "0", "}", ".", "(", "#1", "#0", ")"},
		{"=", "*", "0", ":", "#0", ".", `\`, "(", "#5", "*", "p0", ")", ".", "=", "c", ":", "d", "{", "p2", "}", ".", "#9999999"},
	}
}

// needsBlank: must a blank stand between the two?
func needsBlank(a, b string) bool {
	isWord := func(c byte) bool { return c >= '0' && c <= '9' || c >= 'a' && c <= 'z' || c >= 'A' && c <= 'Z' }
	isLevel := a == "S" || a == "M" || a == "I" || a == "0" || len(a) == 2 && a[0] == 'p' // samples have no such names
	return !isLevel && isWord(a[len(a)-1]) && isWord(b[0])
}

// with: the text, with blanks at the i-th gap (of len + 1), and elsewhere just where one must stand; and where the gap is.
func (list signs) with(blanks string, i int) (s string, place int) {
	for k, sign := range list {
		switch {
		case k == i:
			place = len(s)
			s += blanks
		case k > 0 && needsBlank(list[k-1], sign):
			s += " "
		}
		s += sign
	}
	if i == len(list) {
		return s + blanks, len(s)
	}
	return s, place
}

// plain: the text, with blanks just where they must stand.
func (list signs) plain() string {
	s, _ := list.with("", -1)
	return s
}

// P7.2: blanks may stand ahead, behind, and between any two signs.
func TestParseBlanks(t *testing.T) {
	for _, list := range samples() {
		want, place, e := text.Parse(list.plain())
		if place != 0 || e != api.OK {
			t.Fatalf("Parse(%q): %d, %d", list.plain(), place, e)
		}
		for i := range len(list) + 1 {
			for _, blanks := range []string{" ", "\n", "  ", "\n\n", " \n ", "\n \n", strings.Repeat(" ", 1000)} {
				s, _ := list.with(blanks, i)
				if got, place, e := text.Parse(s); !same(got, want) || place != 0 || e != api.OK {
					t.Errorf("Parse(%.80q): %v, %d, %d", s, got, place, e)
				}
			}
		}
		for _, between := range []string{" ", "\n", " \n"} {
			s := between + strings.Join(list, between) + between
			if got, place, e := text.Parse(s); !same(got, want) || place != 0 || e != api.OK {
				t.Errorf("Parse(%q): %v, %d, %d", s, got, place, e)
			}
		}
	}
}

// P7.2: no other byte is a blank; a byte that is no sign can stand nowhere.
func TestParseStrangeBytes(t *testing.T) {
	for _, list := range samples() {
		for i := range len(list) + 1 {
			for b := range 256 {
				if strings.IndexByte(" \n#*(){},.:\\!=_", byte(b)) >= 0 || b >= '0' && b <= '9' || b >= 'a' && b <= 'z' || b >= 'A' && b <= 'Z' {
					continue
				}
				s, place := list.with(string([]byte{byte(b)}), i)
				fault{s, place, api.ErrForm}.run(t)
			}
		}
	}
}

// P7.2: a blank must stand between a number and a letter that follows; a digit, and a letter behind a name, go on with it.
func TestParseNeedsBlank(t *testing.T) {
	for _, f := range []fault{
		{"(#1c)", 3, api.ErrForm}, {"(#0c)", 3, api.ErrForm}, {"(#0Z)", 3, api.ErrForm}, {"(#0a)", 3, api.ErrForm}, {"(#0z)", 3, api.ErrForm}, {"(#0A)", 3, api.ErrForm}, {"(#1234567c)", 9, api.ErrForm},
		{"(cd)", 3, api.ErrForm}, {"(c1)", 3, api.ErrForm}, {"(#12)", 4, api.ErrForm}, {"(c_)", 3, api.ErrForm}, {"(c.d)", 4, api.ErrForm},
	} {
		f.run(t)
	}
}

// P7.2: no blank may stand within a name or a number, or behind `p` or `#`.
func TestParseBlankWithin(t *testing.T) {
	for _, blank := range []string{" ", "\n"} {
		for _, f := range []fault{
			{"#_0", 1, api.ErrForm}, {"(c #_0)", 4, api.ErrForm}, {"#1_2", 3, api.ErrForm}, {"(#1_2 c)", 4, api.ErrForm}, {"*p_0", 2, api.ErrForm}, {"c{p_0}", 3, api.ErrForm}, {"*Mp0p_1", 5, api.ErrForm},
			{"a_b", 2, api.ErrForm}, {"(a_b c)", 5, api.ErrForm}, {"a_1", 2, api.ErrForm}, {"a._b", 1, api.ErrForm}, {"a_.b", 2, api.ErrForm}, {"(c a_.b)", 5, api.ErrForm},
		} {
			f.text = strings.ReplaceAll(f.text, "_", blank)
			f.run(t)
		}
	}
	for _, s := range []string{"p 0", "p\n0", "Mp0p 1", "S p\n3"} {
		if l, place, e := text.ParseLevel(s); !sameLevel(l, zero) || place != strings.LastIndexByte(s, 'p')+1 || e != api.ErrForm {
			t.Errorf("ParseLevel(%q): %v, %d, %d", s, l, place, e)
		}
	}
}

// P7.2: a text that ends too soon, wherever it does: the place is its end.
func TestParseEndsTooSoon(t *testing.T) {
	whole := 0
	for _, list := range samples() {
		for _, s := range []string{list.plain(), strings.Join(list, " "), " " + strings.Join(list, "\n")} {
			for end := range len(s) {
				got, place, e := text.Parse(s[:end])
				if e == api.OK { // a name, a number, and a term without what may follow, are terms too
					whole++
					if text.Show(got) == "" || place != 0 {
						t.Errorf("Parse(%q): %v, %d", s[:end], got, place)
					}
				} else if place != end || e != api.ErrForm || !same(got, api.Term{}) {
					t.Errorf("Parse(%q): %v, %d, %d", s[:end], got, place, e)
				}
			}
		}
	}
	if whole < 10 || whole > 120 {
		t.Errorf("%d beginnings are texts", whole)
	}
	s := "MIp0SS0Mp1I0p3"
	for end := range len(s) {
		if l, place, e := text.ParseLevel(s[:end]); !sameLevel(l, zero) || place != end || e != api.ErrForm {
			t.Errorf("ParseLevel(%q): %v, %d, %d", s[:end], l, place, e)
		}
	}
}

// P7.2: nothing but blanks may stand behind the end.
func TestParseBehindTheEnd(t *testing.T) {
	for b := range 256 {
		if b == ' ' || b == '\n' {
			continue
		}
		s := string([]byte{byte(b)})
		for _, list := range samples() {
			last := list[len(list)-1]
			if s == "{" && last[0] != '#' && !strings.ContainsAny(last[:1], "0p})") { // a name's levels
				continue
			}
			fault{list.plain() + " " + s, len(list.plain()) + 1, api.ErrForm}.run(t)
		}
		for _, l := range []string{"0", "p2", "S0", "Mp10"} {
			for _, blank := range []string{"", " ", "\n"} {
				if _, place, e := text.ParseLevel(l + blank + s); place != len(l+blank) || e != api.ErrForm {
					t.Errorf("ParseLevel(%q): %d, %d", l+blank+s, place, e)
				}
			}
		}
	}
}

// P7.2: of two faults the one that is read first is told; of two at one byte, the one that P7.2 says.
func TestParseFirstFault(t *testing.T) {
	n25 := strings.Repeat("n", 25)
	deep := strings.Repeat("!c.", 99) + "!" // what follows is too deep
	full := "(" + wideText(1000) + " "      // what follows is one part too many
	for _, f := range []fault{
		{"*p4?", 2, api.ErrLevel}, {"(?*p4", 1, api.ErrForm}, {"(*p4 " + n25, 3, api.ErrLevel}, {"(" + n25 + " *p4)", 1, api.ErrLong}, {"(#12345678 *p4)", 2, api.ErrLong}, {"(#01 " + n25, 3, api.ErrForm},
		{"#123456789", 1, api.ErrLong}, {"#12345678?", 1, api.ErrLong}, {"#12345678c", 1, api.ErrLong}, {"#1234567?", 8, api.ErrForm}, {"#023456789", 2, api.ErrForm},
		{n25 + "?", 0, api.ErrLong}, {n25 + "{p4}", 0, api.ErrLong}, {n25[:24] + "{p4}", 26, api.ErrLevel}, {n25[:24] + "?", 24, api.ErrForm},
		{"c{0,0,0,0,p4}", 10, api.ErrLevel}, {"c{0,0,0,p4,0}", 9, api.ErrLevel}, {"c{0,0,0,?,0}", 8, api.ErrForm}, {"c{0,0,0,0,S?}", 10, api.ErrLevel}, {"c{0,0,0,0?0}", 9, api.ErrForm}, {"c{0,0,0,0,?}", 10, api.ErrForm},
		{deep + "*p4", 298, api.ErrDeep}, {deep + "#x", 298, api.ErrDeep}, {deep + "?", 298, api.ErrForm}, {deep + ")", 298, api.ErrForm}, {deep + "1", 298, api.ErrForm}, {deep, 298, api.ErrForm},
		{full + "*p4", len(full), api.ErrLong}, {full + "#x", len(full), api.ErrLong}, {full + "(", len(full), api.ErrLong}, {full + "?", len(full), api.ErrForm}, {full, len(full), api.ErrForm},
		{"?" + strings.Repeat("c", 4000), 0, api.ErrLong}, {"c?" + strings.Repeat("c", 3999), 0, api.ErrLong}, {"*p4" + strings.Repeat(" ", 3998), 0, api.ErrLong},
	} {
		f.run(t)
	}
	deepLevel := strings.Repeat("S", 32)
	fullLevel := "M" + bushy(63)
	for _, f := range []fault{
		{deepLevel + "p4", 32, api.ErrDeep}, {deepLevel + "p", 32, api.ErrDeep}, {deepLevel + "?", 32, api.ErrForm}, {deepLevel, 32, api.ErrForm},
		{fullLevel + "p4", 64, api.ErrLong}, {fullLevel + "p", 64, api.ErrLong}, {fullLevel + "?", 64, api.ErrForm}, {fullLevel, 64, api.ErrForm},
	} {
		for _, ahead := range []string{"*", "c{", "c{0,0,0,"} {
			fault{ahead + f.text, len(ahead) + f.place, f.why}.run(t)
		}
		if l, place, e := text.ParseLevel(f.text); !sameLevel(l, zero) || place != f.place || e != f.why {
			t.Errorf("ParseLevel(%q): %v, %d, %d", f.text, l, place, e)
		}
	}
	// A level that is too deep with its last part that may be, and one that is too deep and one part too many as well.
	for s, f := range map[string]fault{strings.Repeat("M0", 31) + "M00": {place: 63, why: api.ErrDeep}, "MS0" + strings.Repeat("M0", 30) + "S0": {place: 64, why: api.ErrLong}} {
		if l, place, e := text.ParseLevel(s); !sameLevel(l, zero) || place != f.place || e != f.why {
			t.Errorf("ParseLevel(%q): %v, %d, %d", s, l, place, e)
		}
	}
}

// due is what must come next in a text, and how deep it is: t a term, l a level, k a level in another one,
// m what follows a level of a name, e the end; else that sign.
type due struct {
	what byte
	deep int
}

// finder finds where a text first goes wrong, and why, by a list of what is due.
type finder struct {
	text                 string
	at                   int
	list                 []due
	terms, parts, levels int // parts of the term, of the level, and the levels of the name
}

// place: where s first goes wrong, and why; first is what it must be.
func place(s string, first byte) (int, api.Errno) {
	if len(s) > api.MaxText {
		return 0, api.ErrLong
	}
	f := finder{text: s, list: []due{{what: 'e'}, {first, 1}}}
	for {
		d := f.list[len(f.list)-1]
		f.list = f.list[:len(f.list)-1]
		f.at = len(s) - len(strings.TrimLeft(s[f.at:], " \n"))
		if d.what == 'e' && f.at == len(s) {
			return 0, api.OK
		}
		if at, e := f.step(d); e != api.OK {
			return at, e
		}
	}
}

// then: what is due behind d, in order.
func (f *finder) then(d due, what string) {
	for _, w := range slices.Backward([]byte(what)) {
		f.list = append(f.list, due{w, d.deep + 1})
	}
}

func (f *finder) step(d due) (int, api.Errno) {
	if f.at == len(f.text) {
		return f.at, api.ErrForm
	}
	sign := f.text[f.at]
	switch d.what {
	case 't':
		return f.term(d, sign)
	case 'l', 'k':
		return f.level(d, sign)
	case 'm':
		if sign == ',' {
			f.then(d, "lm")
		} else if sign != '}' {
			return f.at, api.ErrForm
		}
	case sign:
	default:
		return f.at, api.ErrForm
	}
	f.at++
	return 0, api.OK
}

func (f *finder) term(d due, sign byte) (int, api.Errno) {
	word := wordAt(f.text[f.at:])
	follows := map[byte]string{'#': "", '*': "l", '(': "tt)", '\\': "t.t", '!': "t.t", '=': "t:t.t"}
	what, ok := follows[sign]
	switch {
	case !ok && word == 0:
		return f.at, api.ErrForm
	case f.terms == api.MaxSize:
		return f.at, api.ErrLong
	case d.deep > api.MaxDepth:
		return f.at, api.ErrDeep
	case word > api.MaxName:
		return f.at, api.ErrLong
	}
	f.terms++
	f.at++
	f.then(d, what)
	if sign == '#' {
		return f.number()
	}
	if word > 0 {
		f.at += word - 1
		if strings.HasPrefix(strings.TrimLeft(f.text[f.at:], " \n"), "{") {
			f.at += strings.IndexByte(f.text[f.at:], '{') + 1
			f.levels = 0
			f.then(d, "lm")
		}
	}
	return 0, api.OK
}

func (f *finder) number() (int, api.Errno) {
	rest := f.text[f.at:]
	digits := len(rest) - len(strings.TrimLeft(rest, "0123456789"))
	switch {
	case digits == 0:
		return f.at, api.ErrForm
	case digits > 1 && rest[0] == '0':
		return f.at + 1, api.ErrForm
	case digits > 7:
		return f.at, api.ErrLong
	case wordAt(rest[digits:]) > 0:
		return f.at + digits, api.ErrForm
	}
	f.at += digits
	return 0, api.OK
}

func (f *finder) level(d due, sign byte) (int, api.Errno) {
	if d.what == 'l' {
		f.parts, d.deep = 0, 1
	}
	ofName := d.what == 'l' && f.list[len(f.list)-1].what == 'm'
	follows := map[byte]string{'0': "", 'S': "k", 'M': "kk", 'I': "kk", 'p': ""}
	what, ok := follows[sign]
	switch {
	case !ok:
		return f.at, api.ErrForm
	case ofName && f.levels == 4:
		return f.at, api.ErrLevel
	case f.parts == api.MaxParts:
		return f.at, api.ErrLong
	case d.deep > api.MaxLevel:
		return f.at, api.ErrDeep
	}
	if ofName {
		f.levels++
	}
	f.parts++
	f.at++
	f.then(d, what)
	if sign != 'p' {
		return 0, api.OK
	}
	f.at++
	switch digit := strings.IndexByte("0123456789", (f.text + "?")[f.at-1]); {
	case digit < 0:
		return f.at - 1, api.ErrForm
	case digit > 3:
		return f.at - 1, api.ErrLevel
	}
	return 0, api.OK
}

// wordAt: how long the name is that s begins with, were it as long as it liked.
func wordAt(s string) int {
	isLetter := func(i int) bool {
		return i < len(s) && (s[i] >= 'a' && s[i] <= 'z' || s[i] >= 'A' && s[i] <= 'Z')
	}
	n := 0
	for isLetter(n) || n > 0 && n < len(s) && (s[n] >= '0' && s[n] <= '9' || s[n] == '_' || s[n] == '.' && isLetter(n+1)) {
		n++
	}
	return n
}

// spoil: s with some bytes taken out, put in, or put elsewhere.
func spoil(r *rand.Rand, s string) string {
	b := []byte(s)
	odd := "(){}*#\\!=:.,SMIp0123499 ab_\n\x00\xff"
	for range r.Intn(4) {
		at := r.Intn(len(b) + 1)
		switch r.Intn(4) {
		case 0:
			b = slices.Delete(b, at, min(at+1+r.Intn(3), len(b)))
		case 1:
			b = append(b[:at], strings.Repeat(odd[r.Intn(len(odd)):][:1], 1+r.Intn(2))...)
		case 2:
			b = slices.Insert(b, at, odd[r.Intn(len(odd))])
		case 3:
			piece := slices.Clone(b[at:min(at+1+r.Intn(40), len(b))])
			b = slices.Insert(b, r.Intn(len(b)+1), slices.Repeat(piece, 1+r.Intn(8))...)
		}
	}
	return string(b)
}

// P7.2: the place and the error of drawn texts, by another way of reading.
func TestParseFaultsDrawn(t *testing.T) {
	r := rand.New(rand.NewSource(10))
	seen, seenLevel := map[api.Errno]int{}, map[api.Errno]int{}
	long := strings.Repeat("!c. ", 96) + "\\abcdefghijklmnopqrstuvw. (#9999999 c{" + bushy(61) + "," + strings.Repeat("S", 29) + "0,p3})"
	for range 100000 {
		w := writer{Rand: r}
		w.term(1 + r.Intn(5))
		s := w.b.String()
		if r.Intn(5) == 0 {
			s = long
		}
		s = spoil(r, s)
		at, why := place(s, 't')
		got, p, e := text.Parse(s)
		if p != at || e != why || e != api.OK && !same(got, api.Term{}) {
			t.Fatalf("Parse(%q): %v, %d, %d; want %d, %d", s, got, p, e, at, why)
		}
		seen[e]++
		lw := writer{Rand: r}
		lw.level(1 + r.Intn(7))
		s = spoil(r, lw.b.String())
		at, why = place(s, 'l')
		l, p, e := text.ParseLevel(s)
		if p != at || e != why || e != api.OK && !sameLevel(l, zero) {
			t.Fatalf("ParseLevel(%q): %v, %d, %d; want %d, %d", s, l, p, e, at, why)
		}
		seenLevel[e]++
	}
	for _, e := range []api.Errno{api.OK, api.ErrForm, api.ErrLevel, api.ErrLong, api.ErrDeep} {
		if seen[e] < 100 || seenLevel[e] < 10 {
			t.Errorf("%v, %v: the draws tell little", seen, seenLevel)
		}
	}
}
