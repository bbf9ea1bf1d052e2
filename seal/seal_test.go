package seal

import (
	"bytes"
	"encoding/binary"
	"hash/fnv"
	"slices"
	"testing"

	"synod/api"
)

// pattern is n bytes that differ from their neighbours.
func pattern(n int) []byte {
	b := make([]byte, n)
	for i := range b {
		b[i] = byte(i*151 + n)
	}
	return b
}

// P2.1

func TestSumOfKnownTexts(t *testing.T) {
	for _, x := range []struct {
		text string
		sum  uint64
	}{
		{"", 14695981039346656037},
		{"a", 0xaf63dc4c8601ec8c},
		{"foobar", 0x85944171f73967e8},
		{"\x00", 0xaf63bd4c8601b7df},
	} {
		if got := Sum([]byte(x.text)); got != x.sum {
			t.Errorf("Sum(%q) = %#x, want %#x", x.text, got, x.sum)
		}
	}
}

func TestSumIsFNV1a(t *testing.T) {
	for n := range 300 {
		b := pattern(n)
		h := fnv.New64a()
		h.Write(b)
		if got := Sum(b); got != h.Sum64() {
			t.Errorf("Sum of %d bytes = %#x, want %#x", n, got, h.Sum64())
		}
	}
	for c := range 256 {
		h := fnv.New64a()
		h.Write([]byte{byte(c)})
		if got := Sum([]byte{byte(c)}); got != h.Sum64() {
			t.Errorf("Sum of %x = %#x, want %#x", c, got, h.Sum64())
		}
	}
}

func TestSumOfNoPieceAndOfEmptyPieces(t *testing.T) {
	for _, pieces := range [][][]byte{nil, {}, {nil}, {{}}, {nil, {}, nil}} {
		if got := Sum(pieces...); got != 14695981039346656037 {
			t.Errorf("Sum of %d empty pieces = %d", len(pieces), got)
		}
	}
	if got := Sum(nil, []byte("a"), []byte{}, []byte("b"), nil); got != Sum([]byte("ab")) {
		t.Errorf("empty pieces between others count: %#x", got)
	}
}

func TestSumDoesNotHangOnWhereThePiecesAreCut(t *testing.T) {
	b := pattern(40)
	want := Sum(b)
	for i := range 41 {
		for k := i; k <= 40; k++ {
			if got := Sum(b[:i], b[i:k], b[k:]); got != want {
				t.Errorf("cut at %d and %d: %#x, want %#x", i, k, got, want)
			}
		}
	}
	if Sum([]byte("b"), []byte("a")) == Sum([]byte("ab")) {
		t.Error("the order of the pieces does not count")
	}
	if !bytes.Equal(b, pattern(40)) {
		t.Error("the pieces are changed")
	}
}

// P2.2

func TestSealLaysTheSumBehind(t *testing.T) {
	want := []byte{'a', 0xaf, 0x63, 0xdc, 0x4c, 0x86, 0x01, 0xec, 0x8c}
	if got := Seal([]byte("a")); !bytes.Equal(got, want) {
		t.Errorf("Seal(a) = %x, want %x", got, want)
	}
	for _, empty := range [][]byte{nil, {}} {
		if got := Seal(empty); !bytes.Equal(got, []byte{0xcb, 0xf2, 0x9c, 0xe4, 0x84, 0x22, 0x23, 0x25}) {
			t.Errorf("Seal of nothing = %x", got)
		}
	}
	for n := range 100 {
		b := pattern(n)
		if got := Seal(b); !bytes.Equal(got, binary.BigEndian.AppendUint64(slices.Clone(b), Sum(b))) {
			t.Errorf("Seal of %d bytes = %x", n, got)
		}
	}
}

func TestOpenGivesWhatWasSealed(t *testing.T) {
	for n := range 100 {
		got, err := Open(Seal(pattern(n)))
		if err != api.OK || !bytes.Equal(got, pattern(n)) {
			t.Errorf("Open of %d sealed bytes = %x, %d", n, got, err)
		}
	}
	if got, err := Open(Seal(nil)); err != api.OK || len(got) != 0 {
		t.Errorf("Open of nothing sealed = %x, %d", got, err)
	}
}

func TestOpenOfTooFewBytes(t *testing.T) {
	sealed := Seal(nil)
	for n := range 8 {
		if got, err := Open(sealed[:n]); err != api.ErrShort || len(got) != 0 {
			t.Errorf("Open of %d bytes = %x, %d", n, got, err)
		}
	}
	if got, err := Open(nil); err != api.ErrShort || len(got) != 0 {
		t.Errorf("Open of nil = %x, %d", got, err)
	}
	if got, err := Open(make([]byte, 8)); err != api.ErrSum || len(got) != 0 {
		t.Errorf("Open of eight bytes that are no sum = %x, %d", got, err)
	}
}

func TestOpenOfCutBytes(t *testing.T) {
	sealed := Seal(pattern(20))
	for n := 8; n < len(sealed); n++ {
		if got, err := Open(sealed[:n]); err != api.ErrSum || len(got) != 0 {
			t.Errorf("Open of the first %d bytes = %x, %d", n, got, err)
		}
	}
	if got, err := Open(append(sealed, 0)); err != api.ErrSum || len(got) != 0 {
		t.Errorf("Open with a byte behind the sum = %x, %d", got, err)
	}
	low := pattern(20)
	low = binary.LittleEndian.AppendUint64(low, Sum(low))
	if got, err := Open(low); err != api.ErrSum || len(got) != 0 {
		t.Errorf("Open of a sum with its lowest byte first = %x, %d", got, err)
	}
}

func TestSealAndOpenAnswerNewMemory(t *testing.T) {
	room := pattern(50)
	sealed := Seal(room[:20])
	if !bytes.Equal(room, pattern(50)) {
		t.Fatal("Seal changed what it was handed, or the room behind it")
	}
	clear(room)
	opened, err := Open(sealed)
	if err != api.OK || !bytes.Equal(opened, pattern(50)[:20]) {
		t.Fatalf("what was sealed hangs on what was handed in: %x, %d", opened, err)
	}
	clear(opened)
	_ = append(opened, make([]byte, 8)...)
	if _, err := Open(sealed); err != api.OK {
		t.Error("what was opened shares memory with what was sealed")
	}
	again, _ := Open(sealed)
	clear(sealed[:cap(sealed)])
	if !bytes.Equal(again, pattern(50)[:20]) {
		t.Error("what was opened hangs on what was handed in")
	}
}

// P2.3

func TestATurnedByteIsTold(t *testing.T) {
	for _, n := range []int{0, 1, 2, 7, 8, 9, 60} {
		sealed := Seal(pattern(n))
		for i := range sealed {
			was := sealed[i]
			for turn := 1; turn < 256; turn++ {
				sealed[i] = was ^ byte(turn)
				if got, err := Open(sealed); err != api.ErrSum || len(got) != 0 {
					t.Fatalf("%d bytes sealed, byte %d turned from %x to %x: %x, %d", n, i, was, sealed[i], got, err)
				}
			}
			sealed[i] = was
		}
		if _, err := Open(sealed); err != api.OK {
			t.Errorf("%d bytes sealed, none turned: %d", n, err)
		}
	}
}

func FuzzSeal(f *testing.F) {
	f.Add([]byte(nil), 0, byte(1))
	f.Add([]byte("abc"), 4, byte(128))
	f.Fuzz(func(t *testing.T, b []byte, at int, turn byte) {
		sealed := Seal(b)
		if got, err := Open(sealed); err != api.OK || !bytes.Equal(got, b) {
			t.Fatalf("Open of %x sealed = %x, %d", b, got, err)
		}
		if at < 0 || at >= len(sealed) || turn == 0 {
			return
		}
		sealed[at] ^= turn
		if _, err := Open(sealed); err != api.ErrSum {
			t.Fatalf("%x sealed, byte %d turned: %d", b, at, err)
		}
	})
}
