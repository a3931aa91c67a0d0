// Package octet: numbers as bytes: see doc/01-octet.md.
package octet

import "touchstone/api"

const (
	varBits  = 7              // of a number, in each byte of a Var
	varMore  = 1 << varBits   // added to a byte behind which another one comes
	varMask  = varMore - 1    // the bits of a byte that are the number's own
	varTenth = 9              // the place of the last byte that 64 bits can need
	varRest  = 64 % varBits   // how many bits are left for that byte
	varMost  = 1<<varRest - 1 // the greatest value of that byte
	eight    = 8              // bytes of an Eight
	hexes    = "0123456789abcdef"
)

// tight is b without its spare room: what is appended to it goes to new memory,
// so that neither b nor what lies behind it is touched.
func tight(b []byte) []byte {
	return b[:len(b):len(b)]
}

// Var is b with v behind it, seven bits a byte, the lowest first.
func Var(b []byte, v uint64) []byte {
	out := tight(b)
	for v >= varMore {
		out = append(out, byte(v&varMask|varMore))
		v >>= varBits
	}
	return append(out, byte(v))
}

// TakeVar is the number at b's beginning, and how many bytes it has.
func TakeVar(b []byte) (v uint64, n int, e api.Errno) {
	for i, c := range b {
		// Such a byte ends the walk: no shift goes beyond 64 bits, however long b is.
		if i == varTenth && c > varMost {
			return 0, 0, api.ErrRange
		}
		v |= uint64(c&varMask) << (varBits * i)
		if c >= varMore {
			continue
		}
		// A number has one form only, the shortest.
		if c == 0 && i > 0 {
			return 0, 0, api.ErrForm
		}
		return v, i + 1, api.OK
	}
	return 0, 0, api.ErrShort
}

// Text is b with s behind it, its length first.
func Text(b, s []byte) []byte {
	return append(Var(b, uint64(len(s))), s...)
}

// TakeText is the text at b's beginning, and how many bytes it has with its length.
func TakeText(b []byte, most int) (s []byte, n int, e api.Errno) {
	size, head, e := TakeVar(b)
	if e != api.OK {
		return nil, 0, e
	}
	// Held against each other as uint64: a size of 2^63 or more is no int.
	if size > uint64(max(most, 0)) {
		return nil, 0, api.ErrLong
	}
	if size > uint64(len(b)-head) {
		return nil, 0, api.ErrShort
	}
	n = head + int(size)
	return append([]byte(nil), b[head:n:n]...), n, api.OK
}

// Eight is b with v behind it in eight bytes, the highest first.
func Eight(b []byte, v uint64) []byte {
	out := tight(b)
	for i := range eight {
		out = append(out, byte(v>>(8*(eight-1-i))))
	}
	return out
}

// TakeEight is the number in b's first eight bytes.
func TakeEight(b []byte) (v uint64, e api.Errno) {
	if len(b) < eight {
		return 0, api.ErrShort
	}
	for _, c := range b[:eight:eight] {
		v = v<<8 | uint64(c)
	}
	return v, api.OK
}

// Hex is b in two digits a byte, the higher half first.
func Hex(b []byte) string {
	out := make([]byte, 0, 2*len(b))
	for _, c := range b {
		out = append(out, hexes[c>>4], hexes[c&15])
	}
	return string(out)
}

// Unhex is what Hex wrote as s.
func Unhex(s string) ([]byte, api.Errno) {
	if len(s)&1 != 0 {
		return nil, api.ErrForm
	}
	out := make([]byte, 0, len(s)/2)
	for i := 0; i < len(s); i += 2 {
		high, okHigh := half(s[i])
		low, okLow := half(s[i+1])
		if !okHigh || !okLow {
			return nil, api.ErrForm
		}
		out = append(out, high<<4|low)
	}
	return out, api.OK
}

// half is what a digit of Hex says, and whether it is one.
func half(c byte) (byte, bool) {
	switch {
	case c >= '0' && c <= '9':
		return c - '0', true
	case c >= 'a' && c <= 'f':
		return c - 'a' + 10, true
	}
	return 0, false
}
