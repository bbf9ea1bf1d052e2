// Package seal is layer 2: see shared/doc/02-seal.md.
package seal

import (
	"bytes"
	"slices"

	"synod/api"
)

// The two numbers of 64-bit FNV-1a. The factor is odd, so that multiplying by it loses nothing: two sums that once differ go on to differ over equal bytes.
const (
	basis  = 14695981039346656037
	factor = 1099511628211
)

// sumLen is how many bytes a sum has as it is written.
const sumLen = 8

// Sum is the check sum of pieces that lie behind one another.
func Sum(pieces ...[]byte) uint64 {
	sum := uint64(basis)
	for _, piece := range pieces {
		for _, c := range piece {
			sum = (sum ^ uint64(c)) * factor
		}
	}
	return sum
}

// spell is a sum as it is written, the highest byte first.
func spell(sum uint64) [sumLen]byte {
	var spelt [sumLen]byte
	for i := range spelt {
		spelt[sumLen-1-i] = byte(sum >> (8 * i))
	}
	return spelt
}

// Seal is b with its sum behind it.
func Seal(b []byte) []byte {
	sum := spell(Sum(b))
	return slices.Concat(b, sum[:])
}

// Open is what was sealed.
func Open(b []byte) ([]byte, api.Errno) {
	if len(b) < sumLen {
		return nil, api.ErrShort
	}
	body := b[:len(b)-sumLen]
	var stands [sumLen]byte
	copy(stands[:], b[len(body):])
	if stands != spell(Sum(body)) {
		return nil, api.ErrSum
	}
	return bytes.Clone(body), api.OK
}
