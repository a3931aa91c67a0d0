package frame_test

import (
	"bytes"
	"encoding/binary"
	"math"
	"runtime"
	"slices"
	"testing"

	"touchstone/api"
	"touchstone/frame"
)

// runs: n bytes of c, and tail behind them.
func runs(c byte, n int, tail ...byte) []byte {
	return append(bytes.Repeat([]byte{c}, n), tail...)
}

// counted: n bytes, of which no two near ones are alike.
func counted(n int) []byte {
	b := make([]byte, n)
	for i := range b {
		b[i] = byte(i*7 + i/251)
	}
	return b
}

// written: all texts as frames, written otherwise than the package does.
func written(texts ...[]byte) []byte {
	var b []byte
	for _, s := range texts {
		b = binary.AppendUvarint(b, uint64(len(s)))
		b = append(b, s...)
	}
	return b
}

// texts: ordinary ones, empty ones, and both sides of where a length gets one byte more.
func texts() [][]byte {
	return [][]byte{[]byte("ab"), {}, counted(127), counted(128), {}, {}, {0}, {255, 128}, counted(300), []byte("end")}
}

func sameFrames(a, b [][]byte) bool {
	return slices.EqualFunc(a, b, bytes.Equal)
}

// put: Put of b tells these frames and that error, and then so many bytes wait.
func put(t *testing.T, r *frame.Reader, b []byte, want [][]byte, err api.Errno, waits int) {
	t.Helper()
	frames, e := r.Put(b)
	if !sameFrames(frames, want) || e != err {
		t.Fatalf("Put(%v): %v, error %d; want %v, error %d", b, frames, e, want, err)
	}
	if n := r.Waits(); n != waits {
		t.Fatalf("behind Put(%v): %d wait; want %d", b, n, waits)
	}
}

// P3.1: Frame is b, and behind it the length and the text.
func TestFrameBytes(t *testing.T) {
	for _, c := range []struct{ b, text, want []byte }{
		{nil, nil, []byte{0}},
		{[]byte{}, []byte{}, []byte{0}},
		{nil, []byte("ab"), []byte{2, 'a', 'b'}},
		{[]byte{9, 128}, nil, []byte{9, 128, 0}},
		{[]byte{9, 128}, []byte("ab"), []byte{9, 128, 2, 'a', 'b'}},
		{nil, counted(127), append([]byte{127}, counted(127)...)},
		{nil, counted(128), append([]byte{128, 1}, counted(128)...)},
		{[]byte{7}, counted(300), append([]byte{7, 172, 2}, counted(300)...)},
	} {
		if got, e := frame.Frame(c.b, c.text); e != api.OK || !bytes.Equal(got, c.want) {
			t.Errorf("Frame(%v, %v): %v, error %d; want %v", c.b, c.text, got, e, c.want)
		}
	}
}

// P3.1: a text of MaxFrame bytes is written and read; one of a byte more is ErrLong, and b is not told beside it.
func TestLongest(t *testing.T) {
	text := counted(api.MaxFrame)
	b, e := frame.Frame([]byte{0}, text)
	if want := append([]byte{0, 0x80, 0x80, 0x04}, text...); e != api.OK || !bytes.Equal(b, want) {
		t.Fatalf("Frame of MaxFrame bytes: %d bytes, error %d", len(b), e)
	}
	put(t, frame.New(), b, [][]byte{{}, text}, api.OK, 0)
	r := frame.New()
	put(t, r, b[:len(b)-1], [][]byte{{}}, api.OK, len(b)-2)
	put(t, r, b[len(b)-1:], [][]byte{text}, api.OK, 0)
	for _, n := range []int{api.MaxFrame + 1, api.MaxFrame + 2, 1 << 20} {
		if b, e := frame.Frame([]byte{1, 2}, make([]byte, n)); e != api.ErrLong || b != nil {
			t.Errorf("Frame of %d bytes: %d bytes, error %d", n, len(b), e)
		}
	}
	put(t, frame.New(), written(make([]byte, api.MaxFrame+1)), nil, api.ErrLong, 0)
}

// The chapter's example.
func TestExample(t *testing.T) {
	r := frame.New()
	put(t, r, []byte{2, 'a'}, nil, api.OK, 2)
	put(t, r, []byte{'b', 0}, [][]byte{[]byte("ab"), {}}, api.OK, 0)
}

// P3.1: an empty frame is whole with its length, and no bytes at all change nothing.
func TestEmpty(t *testing.T) {
	r := frame.New()
	if n := r.Waits(); n != 0 {
		t.Errorf("of a new Reader %d wait", n)
	}
	put(t, r, nil, nil, api.OK, 0)
	put(t, r, []byte{}, nil, api.OK, 0)
	put(t, r, []byte{0}, [][]byte{{}}, api.OK, 0)
	put(t, r, []byte{0, 0, 0}, [][]byte{{}, {}, {}}, api.OK, 0)
	put(t, r, []byte{3, 'x'}, nil, api.OK, 2)
	put(t, r, nil, nil, api.OK, 2)
	put(t, r, []byte("yz"), [][]byte{[]byte("xyz")}, api.OK, 0)
	put(t, r, nil, nil, api.OK, 0)
}

// ended: how many of the frames are whole in the first n bytes, and how many bytes these have.
func ended(all [][]byte, n int) (frames, size int) {
	for frames < len(all) && size+len(written(all[frames])) <= n {
		size += len(written(all[frames]))
		frames++
	}
	return frames, size
}

// parted: the bytes of all frames come in these pieces; each frame is told as soon as it is whole.
func parted(t *testing.T, all [][]byte, pieces [][]byte) {
	t.Helper()
	r := frame.New()
	came, told := 0, 0
	for _, p := range pieces {
		came += len(p)
		whole, size := ended(all, came)
		put(t, r, p, all[told:whole], api.OK, came-size)
		told = whole
	}
	if told != len(all) {
		t.Fatalf("%d of %d frames told", told, len(all))
	}
}

// P3.1, and 'What follows': in one piece, one by one, in pieces of each size, cut at each place.
func TestParted(t *testing.T) {
	all := texts()
	b := written(all...)
	parted(t, all, [][]byte{b})
	for size := 1; size <= len(b); size++ {
		parted(t, all, slices.Collect(slices.Chunk(b, size)))
	}
	for i := range len(b) + 1 {
		parted(t, all, [][]byte{b[:i], b[i:]})
		parted(t, all, [][]byte{nil, b[:i], {}, b[i:], nil})
		parted(t, all, [][]byte{b[:i/2], b[i/2 : i], b[i:]})
	}
}

// What Frame writes, one behind the other, is what Put tells.
func TestWrittenIsRead(t *testing.T) {
	var b []byte
	var e api.Errno
	for _, s := range texts() {
		if b, e = frame.Frame(b, s); e != api.OK {
			t.Fatalf("Frame of %d bytes: error %d", len(s), e)
		}
	}
	if want := written(texts()...); !bytes.Equal(b, want) {
		t.Fatalf("Frame wrote %v; want %v", b, want)
	}
	put(t, frame.New(), b, texts(), api.OK, 0)
}

// faults: bytes that begin no frame, of which none is told ahead of the last one.
func faults() map[string]struct {
	b []byte
	e api.Errno
} {
	type fault = struct {
		b []byte
		e api.Errno
	}
	return map[string]fault{
		"a last byte of 0":                   {[]byte{0x80, 0}, api.ErrForm},
		"a last byte of 0 that ends more":    {[]byte{0xff, 0xff, 0x83, 0}, api.ErrForm},
		"a ninth byte of 0":                  {runs(0x80, 8, 0), api.ErrForm},
		"a tenth byte of 0":                  {runs(0xff, 9, 0), api.ErrForm},
		"a tenth byte of 2":                  {runs(0x80, 9, 2), api.ErrRange},
		"a tenth byte that goes on":          {runs(0x80, 9, 0x80), api.ErrRange},
		"a tenth byte of 255":                {runs(0xff, 9, 0xff), api.ErrRange},
		"a length of MaxFrame and 1":         {[]byte{0x81, 0x80, 0x04}, api.ErrLong},
		"a length of MaxFrame and 128":       {[]byte{0x80, 0x81, 0x04}, api.ErrLong},
		"a length of 2^21":                   {[]byte{0x80, 0x80, 0x80, 0x01}, api.ErrLong},
		"a length of 2^32 and 1":             {binary.AppendUvarint(nil, 1<<32+1), api.ErrLong},
		"a length of 2^63":                   {runs(0x80, 9, 1), api.ErrLong},
		"the greatest length":                {binary.AppendUvarint(nil, math.MaxUint64), api.ErrLong},
		"the greatest length that is an int": {binary.AppendUvarint(nil, math.MaxInt64), api.ErrLong},
	}
}

// checkSpoilt: whatever comes, the same error is told, no frame, and nothing waits.
func checkSpoilt(t *testing.T, r *frame.Reader, e api.Errno) {
	t.Helper()
	others := [][]byte{nil, {}, {0}, {1, 'x'}, {2}, {0x80, 0}, runs(0xff, 10), {0x81, 0x80, 0x04}, written(texts()...)}
	for range 2 {
		for _, b := range others {
			put(t, r, b, nil, e, 0)
		}
	}
}

// P3.1: each error, with no frame or several ahead of it, and with bytes behind it in the same Put or none.
func TestFaults(t *testing.T) {
	for name, c := range faults() {
		for _, ahead := range [][][]byte{nil, {{}}, {[]byte("x")}, texts()} {
			for _, behind := range [][]byte{nil, {0}, {1, 'y', 0}, runs(0xff, 20), counted(500)} {
				t.Run(name, func(t *testing.T) {
					r := frame.New()
					b := slices.Concat(written(ahead...), c.b, behind)
					put(t, r, b, ahead, c.e, 0)
					checkSpoilt(t, r, c.e)
				})
			}
		}
	}
}

// P3.1: the error comes as soon as its last byte does, and the bytes ahead of that one wait.
func TestFaultsParted(t *testing.T) {
	for name, c := range faults() {
		t.Run(name, func(t *testing.T) {
			for cut := range c.b {
				r := frame.New()
				put(t, r, slices.Concat(written(texts()...), c.b[:cut]), texts(), api.OK, cut)
				put(t, r, c.b[cut:], nil, c.e, 0)
				checkSpoilt(t, r, c.e)
			}
			r := frame.New()
			put(t, r, []byte{2, 'a'}, nil, api.OK, 2)
			put(t, r, []byte{'b'}, [][]byte{[]byte("ab")}, api.OK, 0)
			last := len(c.b) - 1
			for i := range last {
				put(t, r, c.b[i:i+1], nil, api.OK, i+1)
			}
			put(t, r, c.b[last:], nil, c.e, 0)
			checkSpoilt(t, r, c.e)
		})
	}
}

// The first of two faults spoils the Reader: the second is never told.
func TestFirstFault(t *testing.T) {
	for name, first := range faults() {
		for _, second := range faults() {
			r := frame.New()
			frames, e := r.Put(slices.Concat([]byte{1, 'x'}, first.b, second.b))
			if !sameFrames(frames, [][]byte{{'x'}}) || e != first.e {
				t.Errorf("%s: %v, error %d; want error %d", name, frames, e, first.e)
			}
			put(t, r, second.b, nil, first.e, 0)
		}
	}
}

// A length is no fault as long as more bytes may come: they wait.
func TestLengthWaits(t *testing.T) {
	for _, b := range [][]byte{{0x80}, {0xff, 0xff}, runs(0x80, 9), runs(0xff, 9), {0x80, 0x80, 0x04}, {5, 'a'}} {
		put(t, frame.New(), b, nil, api.OK, len(b))
	}
}

// P3.1: of a nil or zero Reader: ErrArg, 0; and none is made of it.
func TestNone(t *testing.T) {
	var zero frame.Reader
	for name, r := range map[string]*frame.Reader{"nil": nil, "zero": &zero} {
		t.Run(name, func(t *testing.T) {
			for range 2 {
				for _, b := range [][]byte{nil, {}, {0}, {1, 'x'}, {2, 'a'}, {0x80, 0}, runs(0xff, 10)} {
					put(t, r, b, nil, api.ErrArg, 0)
				}
			}
		})
	}
}

// Readers have nothing in common: what comes to one, or spoils it, is not seen in another.
func TestApart(t *testing.T) {
	a, b, c := frame.New(), frame.New(), frame.New()
	put(t, a, []byte{2, 'a'}, nil, api.OK, 2)
	put(t, b, []byte{0x80, 0}, nil, api.ErrForm, 0)
	put(t, c, []byte{3, 'c', 'd'}, nil, api.OK, 3)
	put(t, a, []byte{'z'}, [][]byte{[]byte("az")}, api.OK, 0)
	put(t, c, []byte{'e'}, [][]byte{[]byte("cde")}, api.OK, 0)
	checkSpoilt(t, b, api.ErrForm)
	put(t, a, []byte{1, '1'}, [][]byte{{'1'}}, api.OK, 0)
}

// R3: Frame leaves b, its spare room and the text as they were, and what it tells is new memory.
func TestFrameIsNew(t *testing.T) {
	const letters = "abcdefghijklmnopqrstuvwxyz"
	for _, c := range []struct{ b, from, to int }{{3, 10, 14}, {3, 3, 7}, {3, 0, 3}, {3, 9, 9}, {0, 0, 4}, {0, 0, 0}} {
		whole := []byte(letters)
		b, text := whole[:c.b], whole[c.from:c.to]
		want := slices.Concat([]byte(letters[:c.b]), written([]byte(letters[c.from:c.to])))
		one, _ := frame.Frame(b, text)
		two, _ := frame.Frame(b, text)
		if string(whole) != letters {
			t.Fatalf("what was handed in changed: %q", whole)
		}
		for i := range one {
			one[i] ^= 255
		}
		if string(whole) != letters || !bytes.Equal(two, want) {
			t.Errorf("an answer shares memory: %q, %q; want %q", whole, two, want)
		}
	}
}

// R3: Put neither changes nor keeps what it is handed.
func TestPutKeepsNothing(t *testing.T) {
	r := frame.New()
	whole := []byte{1, 'x', 4, 'a', 'b', 'c', 'd', 9}
	put(t, r, whole[:5], [][]byte{{'x'}}, api.OK, 3)
	if !bytes.Equal(whole, []byte{1, 'x', 4, 'a', 'b', 'c', 'd', 9}) {
		t.Fatalf("what was handed in changed: %v", whole)
	}
	clear(whole)
	piece := []byte{'C', 0, 0, 0}
	put(t, r, piece[:1], nil, api.OK, 4)
	if !bytes.Equal(piece, []byte{'C', 0, 0, 0}) {
		t.Fatalf("what was handed in changed: %v", piece)
	}
	clear(piece)
	put(t, r, []byte("D"), [][]byte{[]byte("abCD")}, api.OK, 0)
	only := frame.New()
	piece = []byte{2, 'p'}
	put(t, only, piece, nil, api.OK, 2)
	clear(piece)
	put(t, only, []byte{'q'}, [][]byte{[]byte("pq")}, api.OK, 0)
}

// scribble: all of each frame, its spare room too, is written over.
func scribble(frames [][]byte) {
	for _, f := range frames {
		f = f[:cap(f)]
		for i := range f {
			f[i] = '!'
		}
	}
}

// R3: what is told is new memory: no two frames share any, nor do they with what waits or was handed in.
func TestToldIsNew(t *testing.T) {
	for cut := 1; cut < 9; cut++ {
		b := []byte{2, 'a', 'b', 3, 'c', 'd', 'e', 0, 2, 'f', 'g'}
		same := slices.Clone(b)
		want := [][]byte{[]byte("ab"), []byte("cde"), {}, []byte("fg")}
		r := frame.New()
		one, _ := r.Put(b[:cut])
		scribble(one)
		two, _ := r.Put(b[cut:])
		if !sameFrames(two, want[len(one):]) {
			t.Fatalf("cut at %d: %q; want %q", cut, two, want[len(one):])
		}
		for i := range two {
			scribble(two[i : i+1])
			if !sameFrames(two[i+1:], want[len(one)+i+1:]) {
				t.Fatalf("cut at %d: two frames share memory: %q", cut, two)
			}
		}
		if !bytes.Equal(b, same) {
			t.Fatalf("cut at %d: a frame shares memory with what was handed in: %v", cut, b)
		}
	}
	r := frame.New()
	one, _ := r.Put([]byte("\x02ab\x02cd\x04efg"))
	scribble(one)
	scribble(one[:cap(one)])
	put(t, r, []byte{'h', 1}, [][]byte{[]byte("efgh")}, api.OK, 1)
	first, _ := r.Put([]byte("i\x01j"))
	put(t, r, []byte("\x01k\x01l"), [][]byte{{'k'}, {'l'}}, api.OK, 0)
	if !sameFrames(first, [][]byte{{'i'}, {'j'}}) {
		t.Errorf("a later Put changed what was told: %q", first)
	}
}

// held: how many bytes of memory are in use.
func held() int {
	var m runtime.MemStats
	runtime.GC()
	runtime.ReadMemStats(&m)
	return int(m.HeapAlloc)
}

// No more is kept than what waits: neither the frames that were told, nor what came behind a fault.
func TestKeepsNoMore(t *testing.T) {
	const size = 1 << 25
	for name, tail := range map[string][]byte{"waits": {2, 'a'}, "nothing waits": nil, "spoilt": {0x80, 0}} {
		t.Run(name, func(t *testing.T) {
			r := frame.New()
			before := held()
			r.Put(append(bytes.Repeat(written(counted(api.MaxFrame)), size/api.MaxFrame), tail...))
			if more := held() - before; more > size/4 {
				t.Errorf("%d bytes are kept", more)
			}
			runtime.KeepAlive(r)
		})
	}
}

// model: the frames of all of b, the error behind them, and how many bytes wait.
func model(b []byte) (frames [][]byte, e api.Errno, waits int) {
	for {
		v, n := binary.Uvarint(b)
		switch {
		case n == 0 && len(b) < 10:
			return frames, api.OK, len(b)
		case n <= 0: // ten bytes that end no number of 64 bits
			return frames, api.ErrRange, 0
		case n > 1 && b[n-1] == 0:
			return frames, api.ErrForm, 0
		case v > api.MaxFrame:
			return frames, api.ErrLong, 0
		case uint64(len(b)-n) < v:
			return frames, api.OK, len(b)
		}
		frames = append(frames, b[n:n+int(v)])
		b = b[n+int(v):]
	}
}

// Whatever comes, in whatever pieces, the frames, the error and what waits are those of the whole.
func FuzzPut(f *testing.F) {
	for _, c := range faults() {
		f.Add(slices.Concat(written([]byte("ab"), nil), c.b, []byte{1, 'x'}), uint(3))
	}
	f.Add(written(texts()...), uint(5))
	f.Add([]byte{0x80, 0x80, 0x04, 1, 2, 3}, uint(1))
	f.Add(runs(0x80, 9), uint(4))
	f.Fuzz(func(t *testing.T, b []byte, size uint) {
		want, err, waits := model(b)
		for _, n := range []int{1, int(size%64) + 1, len(b) + 1} {
			r := frame.New()
			var got [][]byte
			var e api.Errno
			for p := range slices.Chunk(b, n) {
				if e != api.OK && r.Waits() != 0 {
					t.Fatalf("spoilt, and %d wait", r.Waits())
				}
				var l [][]byte
				l, e = r.Put(p)
				got = append(got, l...)
			}
			if !sameFrames(got, want) || e != err || r.Waits() != waits {
				t.Fatalf("%x in pieces of %d: %x, error %d, %d wait; want %x, error %d, %d", b, n, got, e, r.Waits(), want, err, waits)
			}
		}
	})
}
