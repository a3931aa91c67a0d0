package digest_test

import (
	"bytes"
	"crypto/sha256"
	"encoding/binary"
	"encoding/hex"
	"slices"
	"strings"
	"testing"

	"touchstone/api"
	"touchstone/digest"
)

// counted: n bytes, of which no two blocks are alike.
func counted(n int) []byte {
	b := make([]byte, n)
	for i := range b {
		b[i] = byte(i*7 + i/251)
	}
	return b
}

// handle: the first sixteen bytes of a sum, read otherwise than the package does.
func handle(sum [32]byte) api.Handle {
	return api.Handle{High: binary.BigEndian.Uint64(sum[:8]), Low: binary.BigEndian.Uint64(sum[8:16])}
}

// P2.1: sums that others have told (FIPS 180-4's examples among them).
func TestSumKnown(t *testing.T) {
	for _, c := range []struct{ in, want string }{
		{"", "e3b0c44298fc1c149afbf4c8996fb92427ae41e4649b934ca495991b7852b855"},
		{"a", "ca978112ca1bbdcafac231b39a23dc4da786eff8147c4e72b9807785afee48bb"},
		{"abc", "ba7816bf8f01cfea414140de5dae2223b00361a396177a9cb410ff61f20015ad"},
		{"\xbd", "68325720aabd7c82f30f554b313d0570c95accbb7dc4b5aae11204c08ffe732b"},
		{"\xc9\x8c\x8e\x55", "7abc22c0ae5af26ce93dbb94433a0e0b2e119d014f8e7f65bd56c61ccccd9504"},
		{"abcdbcdecdefdefgefghfghighijhijkijkljklmklmnlmnomnopnopq", "248d6a61d20638b8e5c026930c3e6039a33ce45964ff2167f6ecedd419db06c1"},
		{"abcdefghbcdefghicdefghijdefghijkefghijklfghijklmghijklmnhijklmnoijklmnopjklmnopqklmnopqrlmnopqrsmnopqrstnopqrstu", "cf5b16a778af8380036ce59e7b0492370b249b11e8f07a51afac45037afee9d1"},
		{strings.Repeat("a", 1000000), "cdc76e5c9914fb9281a1c7e284d73e67f1809a48a497200e046d39ccc7112cd0"},
	} {
		sum := digest.Sum([]byte(c.in))
		if got := hex.EncodeToString(sum[:]); got != c.want {
			t.Errorf("Sum of %d bytes: %s, want %s", len(c.in), got, c.want)
		}
	}
}

// P2.1: every length over several blocks, the ends of blocks among them; and zeros and ones alone.
func TestSumLengths(t *testing.T) {
	for n := range 300 {
		for _, b := range [][]byte{counted(n), make([]byte, n), bytes.Repeat([]byte{255}, n)} {
			if got, want := digest.Sum(b), sha256.Sum256(b); got != want {
				t.Errorf("Sum of %d bytes: %x, want %x", n, got, want)
			}
		}
	}
}

// P2.1: the length at the end needs more than two bytes, and more than three.
func TestSumLong(t *testing.T) {
	for _, n := range []int{8191, 8192, 8193, 1<<21 - 1, 1 << 21, 1<<21 + 55} {
		b := counted(n)
		if got, want := digest.Sum(b), sha256.Sum256(b); got != want {
			t.Errorf("Sum of %d bytes: %x, want %x", n, got, want)
		}
	}
}

func TestSumOfNothing(t *testing.T) {
	want := sha256.Sum256(nil)
	if !bytes.HasPrefix(want[:], []byte{0xe3, 0xb0, 0xc4, 0x42}) {
		t.Fatalf("the sum to hold against: %x", want)
	}
	for name, parts := range map[string][][]byte{
		"no part": nil, "no part of a list": {}, "a nil part": {nil}, "an empty part": {{}},
		"several": {nil, {}, nil, {}},
	} {
		if got := digest.Sum(parts...); got != want {
			t.Errorf("%s: %x, want %x", name, got, want)
		}
	}
}

// However bytes are parted, the sum is the same.
func TestSumParted(t *testing.T) {
	for _, n := range []int{1, 55, 56, 57, 63, 64, 65, 119, 120, 127, 128, 129, 200} {
		b := counted(n)
		want := sha256.Sum256(b)
		for i := range n + 1 {
			if got := digest.Sum(b[:i], b[i:]); got != want {
				t.Errorf("%d bytes, parted at %d: %x, want %x", n, i, got, want)
			}
			if got := digest.Sum(nil, b[:i], []byte{}, b[i:], nil); got != want {
				t.Errorf("%d bytes, parted at %d with empty parts: %x, want %x", n, i, got, want)
			}
		}
		for size := 1; size <= n; size++ {
			if got := digest.Sum(slices.Collect(slices.Chunk(b, size))...); got != want {
				t.Errorf("%d bytes in parts of %d: %x, want %x", n, size, got, want)
			}
		}
	}
}

// The order of the parts is the order of their bytes.
func TestSumOrder(t *testing.T) {
	a, b := []byte("first"), []byte("second")
	if digest.Sum(a, b) == digest.Sum(b, a) {
		t.Error("parts the other way round have the same sum")
	}
	if got, want := digest.Sum(b, a, b), sha256.Sum256([]byte("secondfirstsecond")); got != want {
		t.Errorf("Sum of three parts: %x, want %x", got, want)
	}
}

func TestFirst(t *testing.T) {
	if got, want := digest.First(nil), (api.Handle{High: 0xe3b0c44298fc1c14, Low: 0x9afbf4c8996fb924}); got != want {
		t.Errorf("First of nothing: %x, want %x", got, want)
	}
	if got, want := digest.First([]byte("abc")), (api.Handle{High: 0xba7816bf8f01cfea, Low: 0x414140de5dae2223}); got != want {
		t.Errorf("First of abc: %x, want %x", got, want)
	}
	if digest.First([]byte{}) != digest.First(nil) {
		t.Error("First of an empty list is another than of nil")
	}
	for n := range 200 {
		b := counted(n)
		if got, want := digest.First(b), handle(digest.Sum(b)); got != want {
			t.Errorf("First of %d bytes: %x, Sum begins with %x", n, got, want)
		}
		if got, want := digest.First(b), handle(sha256.Sum256(b)); got != want {
			t.Errorf("First of %d bytes: %x, want %x", n, got, want)
		}
	}
}

// R3: what is handed in stays as it was, spare room too. R4: asked again, the answer is the same.
func TestHandedInStays(t *testing.T) {
	whole := counted(200)
	b, c := whole[:70:100], whole[100:130]
	parts := [][]byte{b, c}
	sum, first := digest.Sum(parts...), digest.First(b)
	if !bytes.Equal(whole, counted(200)) {
		t.Error("bytes that were handed in, or their spare room, changed")
	}
	if len(parts) != 2 || len(parts[0]) != 70 || len(parts[1]) != 30 {
		t.Errorf("the list of parts changed: %v", parts)
	}
	if digest.Sum(parts...) != sum || digest.First(b) != first {
		t.Error("asked again, the answer is another one")
	}
	whole[0] ^= 1
	if digest.Sum(parts...) == sum || digest.First(b) == first {
		t.Error("bytes that changed have the sum of what they were")
	}
}

func FuzzSum(f *testing.F) {
	for _, n := range []int{0, 1, 55, 56, 63, 64, 65, 130} {
		f.Add(counted(n), uint(n/2))
	}
	f.Fuzz(func(t *testing.T, b []byte, cut uint) {
		want := sha256.Sum256(b)
		at := int(cut % uint(len(b)+1))
		if got := digest.Sum(b[:at], b[at:]); got != want {
			t.Errorf("Sum of %x parted at %d: %x, want %x", b, at, got, want)
		}
		if got := digest.First(b); got != handle(want) {
			t.Errorf("First of %x: %x", b, got)
		}
	})
}
