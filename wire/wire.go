// Package wire encodes values as bytes (layer 1, shared/doc/01-wire.md).
package wire

import (
	"math"

	"custody/api"
)

const (
	zero = 128 // the first byte of the encoding of 0
	most = 8   // the most bytes that may follow the first one
)

// Int returns the encoding of an integer.
func Int(n int) []byte {
	m, flip := n, byte(0)
	if n < 0 {
		m, flip = -1-n, 255
	}
	b := make([]byte, 1, 1+most)
digits:
	for shift := 8 * (most - 1); shift >= 0; shift -= 8 {
		digit := byte(m >> shift)
		if digit == 0 && len(b) == 1 {
			continue digits // the shortest form has no leading zeros
		}
		b = append(b, digit^flip)
	}
	// Flipping all bytes of a negative number, the first one too, is what keeps the order.
	b[0] = byte(zero+len(b)-1) ^ flip
	return b
}

// GetInt decodes an integer at the beginning of a byte sequence.
func GetInt(b []byte) (int, int, api.Errno) {
	if len(b) == 0 {
		return 0, 0, api.ErrTruncated
	}
	flip := byte(0)
	if b[0] < zero {
		flip = 255
	}
	k := int(b[0]^flip) - zero
	if k > most {
		return 0, 0, api.ErrEncoding
	}
	if len(b)-1 < k {
		return 0, 0, api.ErrTruncated
	}
	m := uint64(0)
	for _, c := range b[1 : 1+k] {
		m = m<<8 | uint64(c^flip)
	}
	if k > 0 && b[1] == flip || m > math.MaxInt64 { // a leading zero, or no integer
		return 0, 0, api.ErrEncoding
	}
	n := int(m)
	if flip != 0 {
		n = -1 - n
	}
	return n, 1 + k, api.OK
}

// Bytes returns the encoding of a byte string.
func Bytes(s string) []byte { return append(Int(len(s)), s...) }

// GetBytes decodes a byte string at the beginning of a byte sequence.
func GetBytes(b []byte) (string, int, api.Errno) {
	n, used, e := length(b, 1)
	if e != api.OK {
		return "", 0, e
	}
	return string(b[used : used+n]), used + n, api.OK
}

// Ints returns the encoding of a list of integers.
func Ints(l []int) []byte {
	b := Int(len(l))
	for _, n := range l {
		b = append(b, Int(n)...)
	}
	return b
}

// GetInts decodes a list of integers at the beginning of a byte sequence.
func GetInts(b []byte) ([]int, int, api.Errno) { return list(b, 1, GetInt) }

// Strings returns the encoding of a list of byte strings.
func Strings(l []string) []byte {
	b := Int(len(l))
	for _, s := range l {
		b = append(b, Bytes(s)...)
	}
	return b
}

// GetStrings decodes a list of byte strings at the beginning of a byte sequence.
func GetStrings(b []byte) ([]string, int, api.Errno) { return list(b, 1, GetBytes) }

// Digests returns the encoding of a list of digests.
func Digests(l []api.Digest) []byte {
	b := Int(len(l))
	for _, d := range l {
		b = append(b, d[:]...)
	}
	return b
}

// GetDigests decodes a list of digests at the beginning of a byte sequence.
func GetDigests(b []byte) ([]api.Digest, int, api.Errno) {
	return list(b, api.DigestSize, getDigest)
}

// getDigest decodes a digest at the beginning of a byte sequence that contains one.
func getDigest(b []byte) (api.Digest, int, api.Errno) {
	var d api.Digest
	copy(d[:], b)
	return d, api.DigestSize, api.OK
}

// length decodes a number of things at the beginning of a byte sequence, each of which takes at least size of the bytes that follow.
func length(b []byte, size int) (int, int, api.Errno) {
	n, used, e := GetInt(b)
	if e != api.OK {
		return 0, 0, e
	}
	if n < 0 {
		return 0, 0, api.ErrEncoding
	}
	if n > (len(b)-used)/size { // n * size might wrap around
		return 0, 0, api.ErrTruncated
	}
	return n, used, api.OK
}

// list decodes a list at the beginning of a byte sequence; get decodes an element, which takes at least size bytes.
func list[T any](b []byte, size int, get func(b []byte) (T, int, api.Errno)) ([]T, int, api.Errno) {
	n, used, e := length(b, size)
	if e != api.OK {
		return nil, 0, e
	}
	next := func() (T, api.Errno) {
		v, k, e := get(b[used:])
		used += k
		return v, e
	}
	l := make([]T, n)
	for i := range l {
		if l[i], e = next(); e != api.OK {
			return nil, 0, e
		}
	}
	return l, used, api.OK
}
