// Package bits is layer 1: see shared/doc/01-bits.md.
package bits

import "stillroom/api"

// How many bits a byte and a sign have.
const (
	byteBits = 8
	signBits = 5
)

// The signs rise as their numbers do: therefore texts of one length stand in
// the order of the bytes that they tell.
var signs = [32]byte{
	'0', '1', '2', '3', '4', '5', '6', '7', '8', '9',
	'a', 'b', 'c', 'd', 'f', 'g', 'h', 'i', 'j', 'k', 'l',
	'm', 'n', 'p', 'q', 'r', 's', 'v', 'w', 'x', 'y', 'z',
}

// Rotate rotates 32 bits to the right.
func Rotate(x uint32, n int) uint32 {
	// The lowest five bits are n modulo 32 also where n is below 0, for they
	// are two's complement.
	k := n & 31
	return x>>k | x<<(32-k)
}

// Number tells the number of n bytes (1 to 8), the highest first.
func Number(b []byte) (uint64, api.Errno) {
	if len(b) < 1 || len(b) > 8 {
		return 0, api.ErrArg
	}
	v := uint64(0)
	for _, c := range b {
		v = v<<byteBits | uint64(c)
	}
	return v, api.OK
}

// Bytes tells a number's lowest n bytes (1 to 8), the highest first.
func Bytes(v uint64, n int) ([]byte, api.Errno) {
	if n < 1 || n > 8 {
		return nil, api.ErrArg
	}
	b := make([]byte, n)
	for i := range n {
		b[n-1-i] = byte(v >> (byteBits * i))
	}
	return b, api.OK
}

// Narrow tells a number as one with a sign of n bits (1 to 64).
func Narrow(v uint64, n int) (int64, api.Errno) {
	if n < 1 || n > 64 {
		return 0, api.ErrArg
	}
	// A shift of a number with a sign brings the highest of the n bits along
	// into all places above it.
	k := 64 - n
	return int64(v<<k) >> k, api.OK
}

// Encode tells bytes as signs of five bits.
func Encode(b []byte) string {
	out, rest, left := regroup(b, byteBits, signBits)
	if left > 0 {
		out = append(out, rest<<(signBits-left))
	}
	for i, v := range out {
		out[i] = signs[v]
	}
	return string(out)
}

// Decode tells the bytes of such signs.
func Decode(s string) ([]byte, api.Errno) {
	values := make([]byte, len(s))
	for i := range len(s) {
		v, ok := valueOf(s[i])
		if !ok {
			return nil, api.ErrForm
		}
		values[i] = v
	}
	b, rest, left := regroup(values, signBits, byteBits)
	// Encode fills up less than a sign: more bits left over are a sign too
	// many.
	if left >= signBits || rest != 0 {
		return nil, api.ErrForm
	}
	return b, api.OK
}

// regroup lays the bits of groups of one width behind one another, the highest
// of each first, and tells them as groups of another width (both at most 8);
// rest: the bits that make no whole group; left: how many these are.
func regroup(groups []byte, from, to int) (out []byte, rest byte, left int) {
	for _, g := range groups {
		for i := range from {
			rest = rest<<1 | g>>(from-1-i)&1
			left++
			if left == to {
				out = append(out, rest)
				rest, left = 0, 0
			}
		}
	}
	return out, rest, left
}

// valueOf tells which number a sign stands for.
func valueOf(c byte) (v byte, ok bool) {
	for i, s := range signs {
		if s == c {
			return byte(i), true
		}
	}
	return 0, false
}
