package octet_test

import (
	"bytes"
	"math"
	"strings"
	"testing"

	"touchstone/api"
	"touchstone/octet"
)

// numbers: both sides of each place where a Var gets longer, and of each byte of an Eight.
func numbers() []uint64 {
	vs := []uint64{0, 1, 2, 300, 0x0102030405060708, math.MaxUint64 - 1, math.MaxUint64}
	for i := range 64 {
		p := uint64(1) << i
		vs = append(vs, p-1, p, p+1)
	}
	return vs
}

// runs: n bytes of c, and tail behind them.
func runs(c byte, n int, tail ...byte) []byte {
	return append(bytes.Repeat([]byte{c}, n), tail...)
}

// checkFresh: what call makes of b is new memory, and b and its spare room stay as they were.
func checkFresh(t *testing.T, name string, call func(b []byte) []byte) {
	t.Helper()
	plain := call([]byte("abc"))
	whole := []byte("abcdefghijklmnopqrstuvwxyz")
	b := whole[:3]
	out := call(b)
	if !bytes.Equal(out, plain) {
		t.Errorf("%s: with spare room %v, without %v", name, out, plain)
	}
	if string(whole) != "abcdefghijklmnopqrstuvwxyz" {
		t.Errorf("%s: what was handed in, or its spare room, changed: %q", name, whole)
	}
	other := call(b)
	for i := range out {
		out[i] ^= 255
	}
	if string(whole) != "abcdefghijklmnopqrstuvwxyz" {
		t.Errorf("%s: the answer shares memory with what was handed in", name)
	}
	if !bytes.Equal(other, plain) {
		t.Errorf("%s: two answers share memory", name)
	}
}

func TestVarBytes(t *testing.T) {
	for _, c := range []struct {
		v    uint64
		want []byte
	}{
		{0, []byte{0}},
		{1, []byte{1}},
		{127, []byte{127}},
		{128, []byte{128, 1}},
		{129, []byte{129, 1}},
		{300, []byte{172, 2}},
		{16383, []byte{255, 127}},
		{16384, []byte{128, 128, 1}},
		{1<<63 - 1, runs(255, 8, 127)},
		{1 << 63, runs(128, 9, 1)},
		{math.MaxUint64, runs(255, 9, 1)},
	} {
		if b := octet.Var(nil, c.v); !bytes.Equal(b, c.want) {
			t.Errorf("Var(nil, %d): %v, not %v", c.v, b, c.want)
		}
		want := append([]byte{7, 200}, c.want...)
		if b := octet.Var([]byte{7, 200}, c.v); !bytes.Equal(b, want) {
			t.Errorf("Var(7 200, %d): %v, not %v", c.v, b, want)
		}
	}
}

func TestVarIsReadWhateverStandsBehind(t *testing.T) {
	for _, v := range numbers() {
		b := octet.Var(nil, v)
		for _, behind := range [][]byte{nil, {0}, {1}, {127}, {128}, {255, 255}, runs(255, 20)} {
			u, n, e := octet.TakeVar(append(b[:len(b):len(b)], behind...))
			if u != v || n != len(b) || e != api.OK {
				t.Errorf("TakeVar of Var %d and %v: %d %d %d", v, behind, u, n, e)
			}
		}
	}
}

func TestNoVarIsTheBeginningOfAnother(t *testing.T) {
	vs := numbers()
	for _, v := range vs {
		for _, w := range vs {
			if v != w && bytes.HasPrefix(octet.Var(nil, w), octet.Var(nil, v)) {
				t.Errorf("Var %d begins with Var %d", w, v)
			}
		}
	}
}

func TestTakeVarErrors(t *testing.T) {
	for _, c := range []struct {
		b    []byte
		want api.Errno
	}{
		{nil, api.ErrShort},
		{[]byte{}, api.ErrShort},
		{[]byte{128}, api.ErrShort},
		{[]byte{255, 128}, api.ErrShort},
		{runs(128, 9), api.ErrShort},
		{runs(255, 9), api.ErrShort},
		{runs(128, 9, 2), api.ErrRange},
		{runs(255, 9, 2), api.ErrRange},
		{runs(255, 9, 127), api.ErrRange},
		{runs(255, 9, 128), api.ErrRange}, // at once: not ErrShort
		{runs(255, 9, 129, 1), api.ErrRange},
		{runs(128, 9, 128, 0), api.ErrRange}, // at once: not ErrForm
		{runs(255, 10), api.ErrRange},
		{runs(255, 100), api.ErrRange},
		{[]byte{128, 0}, api.ErrForm},
		{[]byte{255, 0}, api.ErrForm},
		{[]byte{172, 130, 0}, api.ErrForm},
		{[]byte{128, 0, 1}, api.ErrForm},
		{runs(128, 9, 0), api.ErrForm},
		{runs(255, 9, 0), api.ErrForm},
	} {
		if v, n, e := octet.TakeVar(c.b); v != 0 || n != 0 || e != c.want {
			t.Errorf("TakeVar(%v): %d %d %d, not error %d", c.b, v, n, e, c.want)
		}
	}
}

func TestTakeVarOfAnyTwoBytesIsThatNumberOrAnError(t *testing.T) {
	for i := range 1 << 16 {
		b := []byte{byte(i >> 8), byte(i)}
		v, n, e := octet.TakeVar(b)
		if e == api.OK && (n < 1 || n > 2 || !bytes.Equal(octet.Var(nil, v), b[:n])) {
			t.Fatalf("TakeVar(%v): %d %d", b, v, n)
		}
		if e != api.OK && (v != 0 || n != 0 || b[0] < 128) {
			t.Fatalf("TakeVar(%v): %d %d %d", b, v, n, e)
		}
	}
}

func TestTextBytes(t *testing.T) {
	long := runs('z', 300)
	for _, c := range []struct{ b, s, want []byte }{
		{nil, nil, []byte{0}},
		{nil, []byte{}, []byte{0}},
		{[]byte{9}, nil, []byte{9, 0}},
		{[]byte{9}, []byte("abc"), []byte{9, 3, 'a', 'b', 'c'}},
		{nil, []byte{0, 255, 128}, []byte{3, 0, 255, 128}},
		{nil, long, append([]byte{172, 2}, long...)},
	} {
		if b := octet.Text(c.b, c.s); !bytes.Equal(b, c.want) {
			t.Errorf("Text(%v, %v): %v, not %v", c.b, c.s, b, c.want)
		}
	}
}

func TestTextIsReadWhateverStandsBehind(t *testing.T) {
	for _, size := range []int{0, 1, 2, 127, 128, 129, 300, 16383, 16384} {
		s := runs(130, size)
		b := octet.Text(nil, s)
		for _, most := range []int{size, size + 1, math.MaxInt} {
			for _, behind := range [][]byte{nil, {0}, {255, 255, 255}} {
				u, n, e := octet.TakeText(append(b[:len(b):len(b)], behind...), most)
				if !bytes.Equal(u, s) || n != len(b) || e != api.OK {
					t.Errorf("TakeText of %d bytes and %v, at most %d: %d bytes, %d %d", size, behind, most, len(u), n, e)
				}
			}
		}
	}
}

func TestTakeTextMostBelowZeroIsZero(t *testing.T) {
	for _, most := range []int{0, -1, -7, math.MinInt} {
		if s, n, e := octet.TakeText([]byte{0, 5}, most); len(s) != 0 || n != 1 || e != api.OK {
			t.Errorf("an empty text, at most %d: %v %d %d", most, s, n, e)
		}
		if s, n, e := octet.TakeText([]byte{1, 5}, most); s != nil || n != 0 || e != api.ErrLong {
			t.Errorf("a text of one, at most %d: %v %d %d", most, s, n, e)
		}
	}
}

func TestTakeTextErrors(t *testing.T) {
	for _, c := range []struct {
		b    []byte
		most int
		want api.Errno
	}{
		{nil, 9, api.ErrShort},
		{[]byte{128}, 0, api.ErrShort},
		{runs(255, 9, 2), 0, api.ErrRange},
		{runs(255, 10, 1, 2, 3), 9, api.ErrRange},
		{[]byte{131, 0, 1, 2, 3}, 9, api.ErrForm},
		{[]byte{3, 1, 2, 3}, 2, api.ErrLong},
		{[]byte{3, 1}, 2, api.ErrLong}, // ErrShort too: ErrLong is named first
		{runs(255, 9, 1), math.MaxInt, api.ErrLong},
		{runs(128, 9, 1), math.MaxInt, api.ErrLong},
		{runs(255, 8, 127), math.MaxInt, api.ErrShort},
		{[]byte{3}, 3, api.ErrShort},
		{[]byte{3, 1, 2}, 3, api.ErrShort},
		{[]byte{3, 1, 2}, 9, api.ErrShort},
		{append([]byte{172, 2}, runs(1, 299)...), 300, api.ErrShort},
	} {
		if s, n, e := octet.TakeText(c.b, c.most); s != nil || n != 0 || e != c.want {
			t.Errorf("TakeText(%v, %d): %v %d %d, not error %d", c.b, c.most, s, n, e, c.want)
		}
	}
}

func TestTakeTextStaysWithinItsBytes(t *testing.T) {
	whole := []byte{3, 1, 2, 3, 4, 5}
	if s, n, e := octet.TakeText(whole[:3], 9); s != nil || n != 0 || e != api.ErrShort {
		t.Errorf("spare room was read: %v %d %d", s, n, e)
	}
	s, _, _ := octet.TakeText(whole, 9)
	s[0] = 88 // ahead of append, which may move s
	_ = append(s, 77)
	if !bytes.Equal(whole, []byte{3, 1, 2, 3, 4, 5}) {
		t.Errorf("the text shares memory with what was handed in: %v", whole)
	}
}

func TestEightBytes(t *testing.T) {
	for _, c := range []struct {
		v    uint64
		want []byte
	}{
		{0, runs(0, 8)},
		{1, runs(0, 7, 1)},
		{256, []byte{0, 0, 0, 0, 0, 0, 1, 0}},
		{0x0102030405060708, []byte{1, 2, 3, 4, 5, 6, 7, 8}},
		{0xfffefdfcfbfaf9f8, []byte{255, 254, 253, 252, 251, 250, 249, 248}},
		{1 << 63, []byte{128, 0, 0, 0, 0, 0, 0, 0}},
		{math.MaxUint64, runs(255, 8)},
	} {
		if b := octet.Eight(nil, c.v); !bytes.Equal(b, c.want) {
			t.Errorf("Eight(nil, %d): %v, not %v", c.v, b, c.want)
		}
		if b := octet.Eight([]byte{9}, c.v); !bytes.Equal(b, append([]byte{9}, c.want...)) {
			t.Errorf("Eight(9, %d): %v", c.v, b)
		}
	}
}

func TestEightIsReadWhateverStandsBehind(t *testing.T) {
	for _, v := range numbers() {
		b := octet.Eight(nil, v)
		for _, behind := range [][]byte{nil, {0}, {255, 1}} {
			if u, e := octet.TakeEight(append(b[:8:8], behind...)); u != v || e != api.OK {
				t.Errorf("TakeEight of Eight %d and %v: %d %d", v, behind, u, e)
			}
		}
	}
}

func TestTakeEightErrors(t *testing.T) {
	spare := runs(255, 16)
	for size := range 8 {
		if v, e := octet.TakeEight(spare[:size]); v != 0 || e != api.ErrShort {
			t.Errorf("TakeEight of %d bytes: %d %d", size, v, e)
		}
	}
	if v, e := octet.TakeEight(nil); v != 0 || e != api.ErrShort {
		t.Errorf("TakeEight of nil: %d %d", v, e)
	}
}

func TestHexOfEachByteIsItsDigits(t *testing.T) {
	const digits = "0123456789abcdef"
	for i := range 256 {
		want := string([]byte{digits[i/16], digits[i%16]})
		if s := octet.Hex([]byte{byte(i)}); s != want {
			t.Errorf("Hex of %d: %q, not %q", i, s, want)
		}
		if b, e := octet.Unhex(want); !bytes.Equal(b, []byte{byte(i)}) || e != api.OK {
			t.Errorf("Unhex of %q: %v %d", want, b, e)
		}
	}
}

func TestHexOfMany(t *testing.T) {
	for _, c := range []struct {
		b []byte
		s string
	}{
		{nil, ""},
		{[]byte{}, ""},
		{[]byte{10, 255}, "0aff"},
		{[]byte{1, 35, 69, 103, 137, 171, 205, 239}, "0123456789abcdef"},
	} {
		if s := octet.Hex(c.b); s != c.s {
			t.Errorf("Hex(%v): %q, not %q", c.b, s, c.s)
		}
		if b, e := octet.Unhex(c.s); !bytes.Equal(b, c.b) || e != api.OK {
			t.Errorf("Unhex(%q): %v %d", c.s, b, e)
		}
	}
}

func TestUnhexOddLength(t *testing.T) {
	for _, s := range []string{"0", "a", "0af", "00000", "g"} {
		if b, e := octet.Unhex(s); b != nil || e != api.ErrForm {
			t.Errorf("Unhex(%q): %v %d", s, b, e)
		}
	}
}

func TestUnhexAnotherByte(t *testing.T) {
	const digits = "0123456789abcdef"
	for i := range 256 {
		c := string([]byte{byte(i)})
		if strings.Contains(digits, c) {
			continue
		}
		for _, s := range []string{c + "0", "0" + c, "0a" + c + "f", "0af" + c, c + c} {
			if b, e := octet.Unhex(s); b != nil || e != api.ErrForm {
				t.Errorf("Unhex(%q): %v %d", s, b, e)
			}
		}
	}
}

func TestWhatIsToldIsNewMemory(t *testing.T) {
	checkFresh(t, "Var 0", func(b []byte) []byte { return octet.Var(b, 0) })
	checkFresh(t, "Var 300", func(b []byte) []byte { return octet.Var(b, 300) })
	checkFresh(t, "Var of ten bytes", func(b []byte) []byte { return octet.Var(b, math.MaxUint64) })
	checkFresh(t, "Text of none", func(b []byte) []byte { return octet.Text(b, nil) })
	checkFresh(t, "Text", func(b []byte) []byte { return octet.Text(b, []byte("xyz")) })
	checkFresh(t, "Text of b itself", func(b []byte) []byte { return octet.Text(b, b) })
	checkFresh(t, "Text behind a piece of b", func(b []byte) []byte { return octet.Text(b[:1], []byte("bc")) })
	checkFresh(t, "Eight", func(b []byte) []byte { return octet.Eight(b, 0x0102030405060708) })
}

func TestTextKeepsNothingOfItsText(t *testing.T) {
	whole := []byte("abcdef")
	b := octet.Text(nil, whole[:3])
	b[1] = 'y' // ahead of append, which may move b
	_ = append(b, 'x', 'x')
	if string(whole) != "abcdef" {
		t.Errorf("Text shares memory with its text: %q", whole)
	}
	b = octet.Text(whole[:1], whole[1:4])
	if string(b) != "a\x03bcd" || string(whole) != "abcdef" {
		t.Errorf("Text of a text in b's spare room: %q, and it is %q", b, whole)
	}
}

func TestTakingChangesNothing(t *testing.T) {
	b := octet.Text(octet.Eight(nil, 5), []byte("abc"))
	was := bytes.Clone(b)
	octet.TakeVar(b)
	octet.TakeEight(b)
	octet.TakeText(b[8:], 3)
	octet.Hex(b)
	if !bytes.Equal(b, was) {
		t.Errorf("%v is now %v", was, b)
	}
}

func FuzzTakes(f *testing.F) {
	f.Add([]byte{172, 2}, 300)
	f.Add([]byte{3, 1, 2, 3}, 3)
	f.Add(runs(255, 9, 1), -1)
	f.Fuzz(func(t *testing.T, b []byte, most int) {
		if v, n, e := octet.TakeVar(b); e == api.OK && !bytes.Equal(octet.Var(nil, v), b[:n]) {
			t.Errorf("TakeVar(%v): %d %d", b, v, n)
		}
		if s, n, e := octet.TakeText(b, most); e == api.OK && !bytes.Equal(octet.Text(nil, s), b[:n]) {
			t.Errorf("TakeText(%v, %d): %v %d", b, most, s, n)
		}
		if v, e := octet.TakeEight(b); e == api.OK && !bytes.Equal(octet.Eight(nil, v), b[:8]) {
			t.Errorf("TakeEight(%v): %d", b, v)
		}
		if u, e := octet.Unhex(octet.Hex(b)); e != api.OK || !bytes.Equal(u, b) {
			t.Errorf("Unhex of Hex(%v): %v %d", b, u, e)
		}
		if u, e := octet.Unhex(string(b)); e == api.OK && octet.Hex(u) != string(b) {
			t.Errorf("Unhex(%q): %v", b, u)
		}
	})
}
