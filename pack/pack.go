// Package pack is layer 1: see shared/doc/01-pack.md.
package pack

import (
	"bytes"
	"math/bits"

	"synod/api"
)

// widest is the most bytes that may follow a number's length byte.
const widest = 8

// width is how many bytes follow the length byte of u.
func width(u uint64) int { return (bits.Len64(u) + 7) / 8 }

// fold lays the numbers with a sign over those without: what is near 0 stays short on both sides of it.
func fold(i int) uint64 {
	if i < 0 {
		return 2*uint64(^i) + 1
	}
	return 2 * uint64(i)
}

// unfold is the number with a sign that fold made into u.
func unfold(u uint64) int {
	half := int(u / 2)
	if u%2 == 1 {
		return ^half
	}
	return half
}

// Size is how many bytes a number has as it is written.
func Size(u uint64) int { return 1 + width(u) }

// Writer takes numbers and texts, one behind the other.
type Writer struct {
	written []byte
}

// NewWriter is a writer of nothing yet.
func NewWriter() *Writer { return &Writer{} }

// Num writes a number.
func (w *Writer) Num(u uint64) *Writer {
	if w == nil {
		return nil
	}
	n := width(u)
	w.written = append(w.written, byte(n))
	for n > 0 {
		n--
		w.written = append(w.written, byte(u>>(8*n)))
	}
	return w
}

// Int writes a number with a sign.
func (w *Writer) Int(i int) *Writer { return w.Num(fold(i)) }

// Text writes how many bytes there are, and the bytes.
func (w *Writer) Text(b []byte) *Writer {
	if w == nil {
		return nil
	}
	w.Num(uint64(len(b)))
	w.written = append(w.written, b...)
	return w
}

// Bytes is all that was written.
func (w *Writer) Bytes() []byte {
	if w == nil {
		return nil
	}
	return bytes.Clone(w.written)
}

// Reader reads them again; its first error stays.
type Reader struct {
	left []byte
	err  api.Errno
}

// NewReader reads a copy of b from the beginning.
func NewReader(b []byte) *Reader { return &Reader{left: bytes.Clone(b)} }

// fail ends the reading; what is left is let go, since nothing behind an error is ever read.
func (r *Reader) fail(e api.Errno) {
	r.left, r.err = nil, e
}

// Num reads a number.
func (r *Reader) Num() uint64 {
	var n int
	var u uint64
	if r.Err() != api.OK {
		goto failed
	}
	if len(r.left) == 0 {
		goto short
	}
	n = int(r.left[0])
	if n > widest {
		goto form
	}
	if len(r.left)-1 < n {
		goto short
	}
	if n > 0 && r.left[1] == 0 {
		goto form
	}
	for _, c := range r.left[1 : 1+n] {
		u = u<<8 | uint64(c)
	}
	r.left = r.left[1+n:]
	return u

short:
	r.fail(api.ErrShort)
	return 0
form:
	r.fail(api.ErrForm)
	return 0
failed:
	return 0
}

// Int reads a number with a sign.
func (r *Reader) Int() int { return unfold(r.Num()) }

// Count reads a number that is at most so many.
func (r *Reader) Count(most int) int {
	u := r.Num()
	if u > uint64(max(most, 0)) {
		goto big
	}
	return int(u)

big:
	r.fail(api.ErrBig)
	return 0
}

// Text reads a text of at most so many bytes.
func (r *Reader) Text(most int) []byte {
	var b []byte
	n := r.Count(most)
	if r.Err() != api.OK {
		goto failed
	}
	if len(r.left) < n {
		goto short
	}
	b = bytes.Clone(r.left[:n])
	r.left = r.left[n:]
	return b

short:
	r.fail(api.ErrShort)
	return nil
failed:
	return nil
}

// Err is the first error so far.
func (r *Reader) Err() api.Errno {
	if r == nil {
		return api.ErrArg
	}
	return r.err
}

// Done is the first error, or ErrTrail, if anything is left.
func (r *Reader) Done() api.Errno {
	if r.Err() != api.OK {
		goto failed
	}
	if len(r.left) > 0 {
		goto trail
	}
	return api.OK

trail:
	r.fail(api.ErrTrail)
failed:
	return r.Err()
}
