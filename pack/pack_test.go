package pack

import (
	"bytes"
	"math"
	"slices"
	"testing"

	"synod/api"
)

type spelling struct {
	num   uint64
	bytes []byte
}

// spellings are numbers and their one form: 0, the highest, and both sides of each change of length.
func spellings() []spelling {
	return []spelling{
		{0, []byte{0}},
		{1, []byte{1, 1}},
		{0xff, []byte{1, 0xff}},
		{0x100, []byte{2, 1, 0}},
		{0x1234, []byte{2, 0x12, 0x34}},
		{0xffff, []byte{2, 0xff, 0xff}},
		{0x10000, []byte{3, 1, 0, 0}},
		{0xffffff, []byte{3, 0xff, 0xff, 0xff}},
		{0x1000000, []byte{4, 1, 0, 0, 0}},
		{0xffffffff, []byte{4, 0xff, 0xff, 0xff, 0xff}},
		{0x100000000, []byte{5, 1, 0, 0, 0, 0}},
		{0xffffffffff, []byte{5, 0xff, 0xff, 0xff, 0xff, 0xff}},
		{0x10000000000, []byte{6, 1, 0, 0, 0, 0, 0}},
		{0xffffffffffff, []byte{6, 0xff, 0xff, 0xff, 0xff, 0xff, 0xff}},
		{0x1000000000000, []byte{7, 1, 0, 0, 0, 0, 0, 0}},
		{0xffffffffffffff, []byte{7, 0xff, 0xff, 0xff, 0xff, 0xff, 0xff, 0xff}},
		{0x100000000000000, []byte{8, 1, 0, 0, 0, 0, 0, 0, 0}},
		{0x0102030405060708, []byte{8, 1, 2, 3, 4, 5, 6, 7, 8}},
		{math.MaxInt64, []byte{8, 0x7f, 0xff, 0xff, 0xff, 0xff, 0xff, 0xff, 0xff}},
		{math.MaxUint64, []byte{8, 0xff, 0xff, 0xff, 0xff, 0xff, 0xff, 0xff, 0xff}},
	}
}

type signed struct {
	num   int
	bytes []byte
}

// signedSpellings hold the lowest and the highest number with a sign, and both sides of 0 and of changes of length.
func signedSpellings() []signed {
	return []signed{
		{0, []byte{0}},
		{-1, []byte{1, 1}},
		{1, []byte{1, 2}},
		{-2, []byte{1, 3}},
		{2, []byte{1, 4}},
		{127, []byte{1, 0xfe}},
		{-128, []byte{1, 0xff}},
		{128, []byte{2, 1, 0}},
		{-129, []byte{2, 1, 1}},
		{-32768, []byte{2, 0xff, 0xff}},
		{32768, []byte{3, 1, 0, 0}},
		{math.MaxInt64, []byte{8, 0xff, 0xff, 0xff, 0xff, 0xff, 0xff, 0xff, 0xfe}},
		{math.MinInt64, []byte{8, 0xff, 0xff, 0xff, 0xff, 0xff, 0xff, 0xff, 0xff}},
	}
}

// P1.1

func TestSizeIsTheLengthWritten(t *testing.T) {
	for _, s := range spellings() {
		if got := Size(s.num); got != len(s.bytes) {
			t.Errorf("Size(%#x) = %d, want %d", s.num, got, len(s.bytes))
		}
	}
	for bit := range 64 {
		for _, u := range []uint64{1 << bit, 1<<bit - 1, 1<<bit + 1} {
			if got, want := Size(u), len(NewWriter().Num(u).Bytes()); got != want {
				t.Errorf("Size(%#x) = %d, but it is written in %d bytes", u, got, want)
			}
		}
	}
}

// P1.2

func TestNumWritesTheOneForm(t *testing.T) {
	for _, s := range spellings() {
		if got := NewWriter().Num(s.num).Bytes(); !bytes.Equal(got, s.bytes) {
			t.Errorf("Num(%#x) wrote %x, want %x", s.num, got, s.bytes)
		}
	}
}

func TestIntWritesTheOneForm(t *testing.T) {
	for _, s := range signedSpellings() {
		if got := NewWriter().Int(s.num).Bytes(); !bytes.Equal(got, s.bytes) {
			t.Errorf("Int(%d) wrote %x, want %x", s.num, got, s.bytes)
		}
	}
}

func TestTextWritesLengthAndBytes(t *testing.T) {
	long := bytes.Repeat([]byte{7}, 300)
	for _, x := range []struct{ text, want []byte }{
		{nil, []byte{0}},
		{[]byte{}, []byte{0}},
		{[]byte("ab"), []byte{1, 2, 'a', 'b'}},
		{[]byte{0}, []byte{1, 1, 0}},
		{long[:255], append([]byte{1, 255}, long[:255]...)},
		{long[:256], append([]byte{2, 1, 0}, long[:256]...)},
		{long, append([]byte{2, 1, 44}, long...)},
	} {
		if got := NewWriter().Text(x.text).Bytes(); !bytes.Equal(got, x.want) {
			t.Errorf("Text(%x) wrote %x, want %x", x.text, got, x.want)
		}
	}
}

func TestWritesStandBehindOneAnother(t *testing.T) {
	w := NewWriter()
	if w == nil {
		t.Fatal("NewWriter is nil")
	}
	if got := w.Bytes(); len(got) != 0 {
		t.Errorf("a new writer holds %x", got)
	}
	if w.Num(256) != w || w.Int(-1) != w || w.Text([]byte("ab")) != w {
		t.Error("a write answers another writer")
	}
	want := []byte{2, 1, 0, 1, 1, 1, 2, 'a', 'b'}
	if got := w.Bytes(); !bytes.Equal(got, want) {
		t.Errorf("wrote %x, want %x", got, want)
	}
	w.Text(nil).Num(5)
	if got := w.Bytes(); !bytes.Equal(got, append(want, 0, 1, 5)) {
		t.Errorf("wrote %x behind %x", got, want)
	}
}

func TestZeroWriterWrites(t *testing.T) {
	var w Writer
	if got := w.Num(1).Bytes(); !bytes.Equal(got, []byte{1, 1}) {
		t.Errorf("wrote %x", got)
	}
}

func TestBytesIsNewMemory(t *testing.T) {
	w := NewWriter().Num(255)
	first := w.Bytes()
	second := w.Bytes()
	first[1] = 9
	clear(first[:cap(first)])
	w.Num(1)
	if !bytes.Equal(second, []byte{1, 255}) {
		t.Errorf("an answer became %x", second)
	}
	if got := w.Bytes(); !bytes.Equal(got, []byte{1, 255, 1, 1}) {
		t.Errorf("the writer holds %x", got)
	}
	_ = append(second, 8, 8)
	if got := w.Bytes(); !bytes.Equal(got, []byte{1, 255, 1, 1}) {
		t.Errorf("room behind an answer belongs to the writer: %x", got)
	}
}

func TestTextIsNotKeptByTheWriter(t *testing.T) {
	room := []byte("abcdef")
	w := NewWriter().Text(room[:2])
	w.Num(77)
	if string(room) != "abcdef" {
		t.Errorf("the text handed in became %q", room)
	}
	room[0] = 'z'
	if got := w.Bytes(); !bytes.Equal(got, []byte{1, 2, 'a', 'b', 1, 77}) {
		t.Errorf("the writer holds %x", got)
	}
}

func TestWritersDoNotMeet(t *testing.T) {
	a, b := NewWriter(), NewWriter()
	a.Num(1)
	b.Num(2)
	a.Num(3)
	if got := a.Bytes(); !bytes.Equal(got, []byte{1, 1, 1, 3}) {
		t.Errorf("the first holds %x", got)
	}
	if got := b.Bytes(); !bytes.Equal(got, []byte{1, 2}) {
		t.Errorf("the second holds %x", got)
	}
}

func TestNilWriter(t *testing.T) {
	var w *Writer
	if w.Num(1) != nil || w.Int(-1) != nil || w.Text([]byte("ab")) != nil || w.Text(nil) != nil {
		t.Error("a write to a nil writer answers one")
	}
	if got := w.Bytes(); len(got) != 0 {
		t.Errorf("a nil writer holds %x", got)
	}
}

// P1.3

func TestNumReads(t *testing.T) {
	for _, s := range spellings() {
		r := NewReader(s.bytes)
		if got := r.Num(); got != s.num || r.Done() != api.OK {
			t.Errorf("%x was read as %#x, %d; want %#x", s.bytes, got, r.Err(), s.num)
		}
	}
}

func TestIntReads(t *testing.T) {
	for _, s := range signedSpellings() {
		r := NewReader(s.bytes)
		if got := r.Int(); got != s.num || r.Done() != api.OK {
			t.Errorf("%x was read as %d, %d; want %d", s.bytes, got, r.Err(), s.num)
		}
	}
}

type wrong struct {
	bytes []byte
	err   api.Errno
}

// wrongNumbers are no numbers; of some of them several things are wrong, and the one named first counts.
func wrongNumbers() []wrong {
	list := []wrong{
		{nil, api.ErrShort},
		{[]byte{}, api.ErrShort},
		{[]byte{1}, api.ErrShort},
		{[]byte{2, 1}, api.ErrShort},
		{[]byte{2, 0}, api.ErrShort},
		{[]byte{8, 1, 2, 3, 4, 5, 6, 7}, api.ErrShort},
		{[]byte{1, 0}, api.ErrForm},
		{[]byte{1, 0, 5}, api.ErrForm},
		{[]byte{2, 0, 1}, api.ErrForm},
		{[]byte{8, 0, 1, 1, 1, 1, 1, 1, 1}, api.ErrForm},
		{[]byte{9}, api.ErrForm},
		{[]byte{9, 1}, api.ErrForm},
		{[]byte{9, 1, 2, 3, 4, 5, 6, 7, 8, 9}, api.ErrForm},
		{[]byte{255, 1, 2, 3}, api.ErrForm},
	}
	for _, s := range spellings() {
		for n := range len(s.bytes) {
			list = append(list, wrong{s.bytes[:n], api.ErrShort})
		}
	}
	return list
}

func TestWrongNumbers(t *testing.T) {
	reads := []struct {
		name string
		read func(*Reader) bool // whether the answer is the zero value
	}{
		{"Num", func(r *Reader) bool { return r.Num() == 0 }},
		{"Int", func(r *Reader) bool { return r.Int() == 0 }},
		{"Count", func(r *Reader) bool { return r.Count(math.MaxInt) == 0 }},
		{"Count of 0", func(r *Reader) bool { return r.Count(0) == 0 }},
		{"Text", func(r *Reader) bool { return len(r.Text(math.MaxInt)) == 0 }},
	}
	for _, x := range reads {
		for _, w := range wrongNumbers() {
			r := NewReader(w.bytes)
			if zero := x.read(r); !zero || r.Err() != w.err || r.Done() != w.err {
				t.Errorf("%s of %x: zero %t, error %d, want %d", x.name, w.bytes, zero, r.Err(), w.err)
			}
		}
	}
}

func TestCount(t *testing.T) {
	for _, x := range []struct {
		num  uint64
		most int
		got  int
		err  api.Errno
	}{
		{0, 0, 0, api.OK},
		{0, -1, 0, api.OK},
		{0, math.MinInt, 0, api.OK},
		{1, 0, 0, api.ErrBig},
		{1, -1, 0, api.ErrBig},
		{1, math.MinInt, 0, api.ErrBig},
		{math.MaxUint64, -1, 0, api.ErrBig},
		{4, 4, 4, api.OK},
		{5, 4, 0, api.ErrBig},
		{300, 299, 0, api.ErrBig},
		{300, 300, 300, api.OK},
		{math.MaxInt64, math.MaxInt, math.MaxInt, api.OK},
		{math.MaxInt64 + 1, math.MaxInt, 0, api.ErrBig},
		{math.MaxUint64, math.MaxInt, 0, api.ErrBig},
	} {
		r := NewReader(NewWriter().Num(x.num).Bytes())
		if got := r.Count(x.most); got != x.got || r.Err() != x.err || r.Done() != x.err {
			t.Errorf("Count(%d) of %d: %d, %d; want %d, %d", x.most, x.num, got, r.Err(), x.got, x.err)
		}
	}
}

func TestText(t *testing.T) {
	for _, x := range []struct {
		bytes []byte
		most  int
		text  string
		err   api.Errno
	}{
		{[]byte{0}, 0, "", api.OK},
		{[]byte{0}, -1, "", api.OK},
		{[]byte{0}, 5, "", api.OK},
		{[]byte{1, 2, 'a', 'b'}, 2, "ab", api.OK},
		{[]byte{1, 2, 'a', 'b'}, math.MaxInt, "ab", api.OK},
		{[]byte{1, 1, 0}, 1, "\x00", api.OK},
		{[]byte{1, 2, 'a', 'b'}, 1, "", api.ErrBig},
		{[]byte{1, 2, 'a', 'b'}, 0, "", api.ErrBig},
		{[]byte{1, 2, 'a', 'b'}, -1, "", api.ErrBig},
		{[]byte{1, 2, 'a'}, 1, "", api.ErrBig},
		{[]byte{1, 2, 'a'}, 2, "", api.ErrShort},
		{[]byte{1, 1}, 1, "", api.ErrShort},
		{[]byte{8, 0x7f, 255, 255, 255, 255, 255, 255, 255, 1}, math.MaxInt, "", api.ErrShort},
		{[]byte{8, 255, 255, 255, 255, 255, 255, 255, 255, 1}, math.MaxInt, "", api.ErrBig},
		{[]byte{2, 0, 1, 'a'}, 5, "", api.ErrForm},
	} {
		r := NewReader(x.bytes)
		if got := r.Text(x.most); string(got) != x.text || r.Err() != x.err || r.Done() != x.err {
			t.Errorf("Text(%d) of %x: %q, %d; want %q, %d", x.most, x.bytes, got, r.Err(), x.text, x.err)
		}
	}
}

func TestReadsGoOnBehindOneAnother(t *testing.T) {
	r := NewReader([]byte{0, 2, 1, 0, 1, 1, 0, 1, 2, 'a', 'b', 1, 3, 1, 7})
	if got := r.Num(); got != 0 {
		t.Errorf("Num %d", got)
	}
	if got := r.Num(); got != 256 {
		t.Errorf("Num %d", got)
	}
	if got := r.Int(); got != -1 {
		t.Errorf("Int %d", got)
	}
	if got := r.Text(3); len(got) != 0 {
		t.Errorf("Text %q", got)
	}
	if got := r.Text(3); string(got) != "ab" {
		t.Errorf("Text %q", got)
	}
	if got := r.Count(3); got != 3 {
		t.Errorf("Count %d", got)
	}
	if r.Err() != api.OK {
		t.Errorf("Err %d", r.Err())
	}
	if got := r.Num(); got != 7 || r.Done() != api.OK {
		t.Errorf("Num %d, %d", got, r.Done())
	}
	if got := r.Num(); got != 0 || r.Err() != api.ErrShort {
		t.Errorf("behind the end: %d, %d", got, r.Err())
	}
}

func TestReaderReadsACopy(t *testing.T) {
	b := []byte{1, 2, 'a', 'b', 1, 5}
	r := NewReader(b[:4])
	clear(b)
	if got := r.Text(2); string(got) != "ab" || r.Done() != api.OK {
		t.Errorf("Text %q, %d", got, r.Err())
	}
	b = []byte{1, 2, 'a', 'b', 1, 5}
	r = NewReader(b)
	text := r.Text(2)
	clear(text[:cap(text)])
	if !bytes.Equal(b, []byte{1, 2, 'a', 'b', 1, 5}) {
		t.Errorf("what was handed in became %x", b)
	}
	if got := r.Num(); got != 5 || r.Done() != api.OK {
		t.Errorf("behind a text that was changed: %d, %d", got, r.Err())
	}
}

func TestTextsShareNoMemory(t *testing.T) {
	r := NewReader([]byte{1, 2, 'a', 'b', 1, 2, 'c', 'd', 0, 1, 1, 'e'})
	first, second, none := r.Text(2), r.Text(2), r.Text(2)
	_ = append(first, "zzzzzzzz"...)
	_ = append(none, "zzzzzzzz"...)
	first[0] = 'z'
	if string(second) != "cd" {
		t.Errorf("the second text became %q", second)
	}
	if got := r.Text(1); string(got) != "e" {
		t.Errorf("the text behind became %q", got)
	}
}

// P1.4

// rest reads everything once more and tells whether all of it is 0 or empty.
func rest(r *Reader) bool {
	return r.Num() == 0 && r.Int() == 0 && r.Count(9) == 0 && r.Count(-1) == 0 && len(r.Text(9)) == 0
}

func TestFirstErrorStays(t *testing.T) {
	good := []byte{1, 5, 1, 5, 1, 5, 1, 5, 1, 1, 'a'}
	for _, x := range []struct {
		name  string
		bytes []byte
		read  func(*Reader)
		err   api.Errno
	}{
		{"a short number", []byte{1}, func(r *Reader) { r.Num() }, api.ErrShort},
		{"nothing at all", nil, func(r *Reader) { r.Num() }, api.ErrShort},
		{"a long length", append([]byte{9}, good...), func(r *Reader) { r.Num() }, api.ErrForm},
		{"a leading 0", append([]byte{1, 0}, good...), func(r *Reader) { r.Int() }, api.ErrForm},
		{"a big count", append([]byte{1, 5}, good...), func(r *Reader) { r.Count(4) }, api.ErrBig},
		{"a big text", append([]byte{1, 5}, good...), func(r *Reader) { r.Text(4) }, api.ErrBig},
		{"a short text", append([]byte{1, 50}, good...), func(r *Reader) { r.Text(99) }, api.ErrShort},
		{"bytes left over", good, func(r *Reader) { r.Num(); r.Done() }, api.ErrTrail},
	} {
		r := NewReader(x.bytes)
		x.read(r)
		for range 2 {
			if r.Err() != x.err || r.Done() != x.err {
				t.Errorf("%s: %d, %d, want %d", x.name, r.Err(), r.Done(), x.err)
			}
			if !rest(r) {
				t.Errorf("%s: something is read behind it", x.name)
			}
		}
	}
}

func TestDone(t *testing.T) {
	r := NewReader([]byte{1, 5, 0})
	if r.Num() != 5 || r.Err() != api.OK {
		t.Fatalf("Err %d", r.Err())
	}
	if r.Done() != api.ErrTrail || r.Err() != api.ErrTrail || r.Done() != api.ErrTrail {
		t.Errorf("one byte left over: %d", r.Err())
	}
	r = NewReader([]byte{1, 5})
	if r.Num() != 5 || r.Done() != api.OK || r.Err() != api.OK || r.Done() != api.OK {
		t.Errorf("nothing left over: %d", r.Err())
	}
	for _, b := range [][]byte{nil, {}} {
		if r := NewReader(b); r.Done() != api.OK || r.Err() != api.OK {
			t.Errorf("nothing to read: %d", r.Err())
		}
	}
	if r := NewReader([]byte{0}); r.Done() != api.ErrTrail {
		t.Errorf("nothing was read: %d", r.Err())
	}
}

func TestZeroReaderHasNothing(t *testing.T) {
	var r Reader
	if r.Done() != api.OK || r.Num() != 0 || r.Err() != api.ErrShort {
		t.Errorf("Err %d", r.Err())
	}
}

func TestNilReader(t *testing.T) {
	var r *Reader
	if !rest(r) {
		t.Error("a nil reader reads something")
	}
	if r.Err() != api.ErrArg || r.Done() != api.ErrArg {
		t.Errorf("Err %d, Done %d", r.Err(), r.Done())
	}
}

// P1.5

func TestWhatWasWrittenIsRead(t *testing.T) {
	w := NewWriter()
	for _, s := range spellings() {
		w.Num(s.num).Text(s.bytes).Int(int(s.num)).Int(-int(s.num))
	}
	r := NewReader(w.Bytes())
	for _, s := range spellings() {
		num, text, there, back := r.Num(), r.Text(len(s.bytes)), r.Int(), r.Int()
		if num != s.num || !bytes.Equal(text, s.bytes) || there != int(s.num) || back != -int(s.num) {
			t.Errorf("%#x: read %#x %x %d %d", s.num, num, text, there, back)
		}
	}
	if r.Done() != api.OK {
		t.Errorf("Done %d", r.Done())
	}
}

// readAll reads b by one way again and again up to its end or an error, and tells what the same way writes.
func readAll(b []byte, step func(*Reader, *Writer)) ([]byte, api.Errno) {
	r, w := NewReader(b), NewWriter()
	for r.Err() == api.OK && len(w.Bytes()) < len(b) {
		step(r, w)
	}
	return w.Bytes(), r.Done()
}

func checkOneForm(t *testing.T, b []byte) {
	t.Helper()
	most := len(b)
	for name, step := range map[string]func(*Reader, *Writer){
		"Num":   func(r *Reader, w *Writer) { w.Num(r.Num()) },
		"Int":   func(r *Reader, w *Writer) { w.Int(r.Int()) },
		"Count": func(r *Reader, w *Writer) { w.Num(uint64(r.Count(most))) },
		"Text":  func(r *Reader, w *Writer) { w.Text(r.Text(most)) },
		"mixed": func(r *Reader, w *Writer) { w.Int(r.Int()).Text(r.Text(most)) },
	} {
		got, err := readAll(b, step)
		if err == api.OK && !bytes.Equal(got, b) {
			t.Errorf("%s: %x is read without an error, but %x is written", name, b, got)
		}
	}
}

func TestWhatIsReadIsWhatWouldBeWritten(t *testing.T) {
	checkOneForm(t, nil)
	for i := range 256 {
		checkOneForm(t, []byte{byte(i)})
		for k := range 256 {
			checkOneForm(t, []byte{byte(i), byte(k)})
		}
	}
	few := []byte{0, 1, 2, 3, 8, 9, 255}
	lists := [][]byte{nil}
	for range 5 {
		var longer [][]byte
		for _, b := range lists {
			for _, c := range few {
				longer = append(longer, append(slices.Clone(b), c))
			}
		}
		for _, b := range longer {
			checkOneForm(t, b)
		}
		lists = longer
	}
}

func FuzzOneForm(f *testing.F) {
	for _, s := range spellings() {
		f.Add(s.bytes)
	}
	for _, w := range wrongNumbers() {
		f.Add(w.bytes)
	}
	f.Add([]byte{1, 2, 'a', 'b', 0, 1, 1, 0})
	f.Fuzz(func(t *testing.T, b []byte) {
		old := slices.Clone(b)
		checkOneForm(t, b)
		if !bytes.Equal(b, old) {
			t.Errorf("what was handed in became %x, was %x", b, old)
		}
	})
}
