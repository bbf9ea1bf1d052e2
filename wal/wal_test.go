package wal

import (
	"bytes"
	"encoding/binary"
	"fmt"
	"hash/fnv"
	"math"
	"math/rand"
	"slices"
	"strings"
	"testing"

	"synod/api"
	"synod/disk"
)

// num is a number as layer 1 writes it, worked out on its own.
func num(u uint64) []byte {
	b := binary.BigEndian.AppendUint64(nil, u)
	b = bytes.TrimLeft(b, "\x00")
	return append([]byte{byte(len(b))}, b...)
}

// sealed is bytes with their sum behind them.
func sealed(body []byte) []byte {
	h := fnv.New64a()
	h.Write(body)
	return binary.BigEndian.AppendUint64(bytes.Clone(body), h.Sum64())
}

// text is bytes with their number before them.
func text(b []byte) []byte { return append(num(uint64(len(b))), b...) }

// framed is a record's frame.
func framed(body string) []byte { return text(sealed([]byte(body))) }

// head is a header.
func head(number, first uint64) []byte {
	return text(sealed(append(num(number), num(first)...)))
}

// pieceOf is the bytes of a piece.
func pieceOf(number, first uint64, recs ...string) []byte {
	b := head(number, first)
	for _, rec := range recs {
		b = append(b, framed(rec)...)
	}
	return b
}

// safe is an area, all of it safe.
func safe(name string, data []byte) api.Area {
	return api.Area{Name: name, Data: data, Safe: len(data)}
}

// part is a piece's area, all of it safe.
func part(number, first uint64, recs ...string) api.Area {
	return safe(fmt.Sprintf("wal-%06d", number), pieceOf(number, first, recs...))
}

func mounted(t *testing.T, room int, areas ...api.Area) *disk.Disk {
	t.Helper()
	d, e := disk.Mount(room, areas)
	if e != api.OK {
		t.Fatalf("Mount = %d", e)
	}
	return d
}

func opened(t *testing.T, d *disk.Disk, limit int) (*Log, []api.Rec) {
	t.Helper()
	l, recs, e := Open(d, limit)
	if e != api.OK || l == nil {
		t.Fatalf("Open(.., %d) = %d", limit, e)
	}
	return l, recs
}

// tell is records as a text.
func tell(recs []api.Rec) string {
	var all []string
	for _, r := range recs {
		all = append(all, fmt.Sprintf("%d:%s", r.Index, r.Data))
	}
	return strings.Join(all, " ")
}

// tellDisk is the areas as a text: of each its name, how many bytes are safe, and how many are not.
func tellDisk(d *disk.Disk) string {
	var all []string
	for _, a := range d.Image() {
		all = append(all, fmt.Sprintf("%s %d+%d", a.Name, a.Safe, len(a.Data)-a.Safe))
	}
	return strings.Join(all, ", ")
}

func wantErr(t *testing.T, what string, got, want api.Errno) {
	t.Helper()
	if got != want {
		t.Errorf("%s = %d, want %d", what, got, want)
	}
}

func wantDisk(t *testing.T, d *disk.Disk, want string) {
	t.Helper()
	if got := tellDisk(d); got != want {
		t.Errorf("the disk holds %q, want %q", got, want)
	}
}

// wantLog asks for First, Next and Pieces.
func wantLog(t *testing.T, l *Log, first, next, pieces int) {
	t.Helper()
	if l.First() != first || l.Next() != next || l.Pieces() != pieces {
		t.Errorf("First, Next, Pieces = %d, %d, %d, want %d, %d, %d", l.First(), l.Next(), l.Pieces(), first, next, pieces)
	}
}

func wantAppend(t *testing.T, l *Log, rec string, index int, want api.Errno) {
	t.Helper()
	if got, e := l.Append([]byte(rec)); got != index || e != want {
		t.Errorf("Append of %d bytes = %d, %d, want %d, %d", len(rec), got, e, index, want)
	}
}

// wantNoOpen asks that an Open gives nothing but an error.
func wantNoOpen(t *testing.T, d *disk.Disk, want api.Errno) {
	t.Helper()
	if l, recs, e := Open(d, 100); l != nil || len(recs) != 0 || e != want {
		t.Errorf("Open = %v, %v, %d, want nothing and %d", l, recs, e, want)
	}
}

// P9.1: what stands against an Open.

func TestOpenRefused(t *testing.T) {
	wantNoOpen(t, nil, api.ErrArg)
	d := mounted(t, 1000, part(1, 1, "a"), safe("wal-000002", []byte("stray")))
	d.Fuse(1)
	d.Sync("wal-000001")
	wantNoOpen(t, d, api.ErrDown)
	wantDisk(t, d, "wal-000001 25+0, wal-000002 5+0")
}

// P9.1: the limit.

func TestLimit(t *testing.T) {
	for _, limit := range []int{math.MinInt, -1, 0, 1} {
		l, _ := opened(t, disk.New(1000), limit)
		for i := range 4 {
			// A piece without a record is never full.
			wantAppend(t, l, "", i+1, api.OK)
		}
		wantLog(t, l, 1, 5, 4)
	}
	// The header has 14 bytes, and a frame of 2 bytes 12.
	for _, c := range []struct{ limit, pieces int }{{25, 2}, {26, 2}, {27, 1}} {
		l, _ := opened(t, disk.New(1000), c.limit)
		wantAppend(t, l, "aa", 1, api.OK)
		wantAppend(t, l, "bb", 2, api.OK)
		wantLog(t, l, 1, 3, c.pieces)
	}
}

func TestLimitAbove(t *testing.T) {
	for _, limit := range []int{api.MaxSeg - 1, api.MaxSeg, api.MaxSeg + 1, math.MaxInt} {
		for _, short := range []int{0, 1} {
			l, _ := opened(t, disk.New(api.MaxRoom), limit)
			// Seven frames of 3 + 8192 + 8 bytes, and what is lacking to MaxSeg.
			for range 7 {
				l.Append(make([]byte, api.MaxRec))
			}
			left := api.MaxSeg - 14 - 7*8203 - 11 - short
			wantAppend(t, l, strings.Repeat("x", left), 8, api.OK)
			want := 1
			if api.MaxSeg-short >= min(limit, api.MaxSeg) {
				want = 2
			}
			wantAppend(t, l, "y", 9, api.OK)
			wantLog(t, l, 1, 10, want)
		}
	}
}

func TestLimitOfAnOpenedPiece(t *testing.T) {
	d := mounted(t, 1000, part(3, 7, "aa"))
	l, _ := opened(t, d, 26)
	wantAppend(t, l, "b", 8, api.OK)
	wantDisk(t, d, "wal-000003 26+0, wal-000004 14+11")
	l, _ = opened(t, mounted(t, 1000, part(3, 7, "aa")), 27)
	wantAppend(t, l, "b", 8, api.OK)
	wantLog(t, l, 7, 9, 1)
	// A header alone is no record, how long it may be.
	l, _ = opened(t, mounted(t, 1000, part(3, 7)), 5)
	wantAppend(t, l, "b", 7, api.OK)
	wantLog(t, l, 7, 8, 1)
}

// P9.1: which areas are a piece's.

func TestOtherAreasStay(t *testing.T) {
	names := []string{"wal-000000", "wal-00001", "wal-0000001", "wal--00001", "wal-00000a", "wal-", "wal", "val-000001", "wal000001", "wal-00001-", "xwal-000001", "wal-1000000"}
	var areas []api.Area
	for _, name := range names {
		areas = append(areas, safe(name, pieceOf(1, 5, "no")))
	}
	d := mounted(t, 10000, areas...)
	l, recs := opened(t, d, 100)
	if len(recs) != 0 {
		t.Errorf("records %s of areas that are no piece's", tell(recs))
	}
	wantLog(t, l, 1, 1, 1)
	for _, name := range names {
		if b, e := d.Read(name); e != api.OK || !bytes.Equal(b, pieceOf(1, 5, "no")) {
			t.Errorf("%s has not stayed as it was: %d", name, e)
		}
	}
	if d.Steps() != 2 {
		t.Errorf("%d steps, want 2", d.Steps())
	}
}

// P9.1: which pieces belong to the log, and where its last one ends.

func TestRecover(t *testing.T) {
	turned := func(b []byte, at int) []byte {
		b = bytes.Clone(b)
		b[(at+len(b))%len(b)] ^= 1
		return b
	}
	cut := func(a api.Area, n int) api.Area { return safe(a.Name, a.Data[:len(a.Data)-n]) }
	with := func(a api.Area, more ...byte) api.Area { return safe(a.Name, append(bytes.Clone(a.Data), more...)) }
	const fresh = "wal-000001 14+0"
	long := strings.Repeat("l", api.MaxRec)
	for _, c := range []struct {
		name        string
		areas       []api.Area
		recs        string
		first, next int
		disk        string
		steps       int
	}{
		{"nothing", nil, "", 1, 1, fresh, 2},
		{"a header", []api.Area{part(1, 1)}, "", 1, 1, fresh, 2},
		{"one piece", []api.Area{part(1, 1, "a", "", "ccc")}, "1:a 2: 3:ccc", 1, 4, "wal-000001 48+0", 2},
		{"two pieces", []api.Area{part(1, 1, "a", "b"), part(2, 3, "c")}, "1:a 2:b 3:c", 1, 4, "wal-000001 36+0, wal-000002 25+0", 2},
		{"the second is empty", []api.Area{part(1, 1, "a", "b"), part(2, 3)}, "1:a 2:b", 1, 3, "wal-000001 36+0, wal-000002 14+0", 2},
		{"both are empty", []api.Area{part(1, 1), part(2, 1)}, "", 1, 1, "wal-000001 14+0, wal-000002 14+0", 2},
		{"trimmed", []api.Area{part(7, 5, "a"), part(8, 6, "b")}, "5:a 6:b", 5, 7, "wal-000007 25+0, wal-000008 25+0", 2},
		{"a gap of numbers", []api.Area{part(7, 5, "a"), part(9, 6, "b")}, "5:a 6:b", 5, 7, "wal-000007 25+0, wal-000009 25+0", 2},
		{"the greatest number", []api.Area{part(999999, 5, "a")}, "5:a", 5, 6, "wal-999999 27+0", 2},
		{"the greatest first index", []api.Area{part(1, api.MaxSlot, "a")}, fmt.Sprintf("%d:a", api.MaxSlot), api.MaxSlot, api.MaxSlot + 1, "wal-000001 30+0", 2},
		{"too great a first index", []api.Area{part(1, api.MaxSlot+1, "a")}, "", 1, 1, fresh, 3},
		{"an index beyond all numbers", []api.Area{part(1, math.MaxUint64, "a")}, "", 1, 1, fresh, 3},
		{"first index 0", []api.Area{part(1, 0, "a")}, "", 1, 1, fresh, 3},
		{"the longest record", []api.Area{part(1, 1, long, "b")}, "1:" + long + " 2:b", 1, 3, "wal-000001 8228+0", 2},
		{"too long a record", []api.Area{part(1, 1, "a", long+"l", "b")}, "1:a", 1, 2, "wal-000001 25+0", 2},

		{"a byte is lacking", []api.Area{cut(part(1, 1, "a", "b"), 1)}, "1:a", 1, 2, "wal-000001 25+0", 2},
		{"the first byte of a frame", []api.Area{cut(part(1, 1, "a", "b"), 10)}, "1:a", 1, 2, "wal-000001 25+0", 2},
		{"a record is lacking", []api.Area{cut(part(1, 1, "a", "b"), 11)}, "1:a", 1, 2, "wal-000001 25+0", 2},
		{"a byte is too many", []api.Area{with(part(1, 1, "a"), 7)}, "1:a", 1, 2, "wal-000001 25+0", 2},
		{"a frame of nothing", []api.Area{with(part(1, 1, "a"), 0)}, "1:a", 1, 2, "wal-000001 25+0", 2},
		{"a frame shorter than a sum", []api.Area{with(part(1, 1, "a"), 1, 2, 7, 7)}, "1:a", 1, 2, "wal-000001 25+0", 2},
		{"a length in another form", []api.Area{with(with(part(1, 1, "a"), 2, 0), framed("b")[1:]...)}, "1:a", 1, 2, "wal-000001 25+0", 2},
		{"a turned byte of a record", []api.Area{safe("wal-000001", turned(pieceOf(1, 1, "a", "b", "c"), -14))}, "1:a", 1, 2, "wal-000001 25+0", 2},

		{"no bytes", []api.Area{safe("wal-000001", nil)}, "", 1, 1, fresh, 3},
		{"half a header", []api.Area{cut(part(1, 1), 1)}, "", 1, 1, fresh, 3},
		{"a turned byte of the header", []api.Area{safe("wal-000001", turned(pieceOf(1, 1, "a"), 3))}, "", 1, 1, fresh, 3},
		{"the header of another number", []api.Area{safe("wal-000001", pieceOf(2, 1, "a"))}, "", 1, 1, fresh, 3},
		{"a header of one number", []api.Area{safe("wal-000001", text(sealed(num(1))))}, "", 1, 1, fresh, 3},
		{"a header of three numbers", []api.Area{safe("wal-000001", text(sealed([]byte{1, 1, 1, 1, 1, 1})))}, "", 1, 1, fresh, 3},
		{"a header in another form", []api.Area{safe("wal-000001", text(sealed([]byte{1, 1, 2, 0, 1})))}, "", 1, 1, fresh, 3},
		{"a header that isn't sealed", []api.Area{safe("wal-000001", text([]byte{1, 1, 1, 1}))}, "", 1, 1, fresh, 3},

		{"the first isn't whole", []api.Area{cut(part(1, 1, "a", "b"), 1), part(2, 2, "c")}, "1:a", 1, 2, "wal-000001 25+0", 3},
		{"the first has too much", []api.Area{with(part(1, 1, "a"), 0), part(2, 2, "c"), part(3, 3)}, "1:a", 1, 2, "wal-000001 25+0", 4},
		{"the first is none", []api.Area{cut(part(1, 1), 1), part(2, 1, "c")}, "", 1, 1, fresh, 4},
		{"the second is none", []api.Area{part(1, 1, "a"), cut(part(2, 2), 1), part(3, 2, "c")}, "1:a", 1, 2, "wal-000001 25+0", 4},
		{"an index too low", []api.Area{part(1, 1, "a"), part(2, 1, "c")}, "1:a", 1, 2, "wal-000001 25+0", 3},
		{"an index too high", []api.Area{part(1, 1, "a"), part(2, 3, "c")}, "1:a", 1, 2, "wal-000001 25+0", 3},
		{"the third has a wrong index", []api.Area{part(1, 1, "a"), part(2, 2, "b"), part(3, 2, "c"), part(4, 3, "d")}, "1:a 2:b", 1, 3, "wal-000001 25+0, wal-000002 25+0", 4},
		{"not whole, and the next one fits what is whole", []api.Area{part(1, 1, "a"), with(part(2, 2, "b"), 9), part(3, 3, "c")}, "1:a 2:b", 1, 3, "wal-000001 25+0, wal-000002 25+0", 3},
	} {
		t.Run(c.name, func(t *testing.T) {
			d := mounted(t, api.MaxRoom, c.areas...)
			l, recs := opened(t, d, 100)
			if got := tell(recs); got != c.recs {
				t.Errorf("records %q, want %q", got, c.recs)
			}
			wantLog(t, l, c.first, c.next, strings.Count(c.disk, "wal-"))
			wantDisk(t, d, c.disk)
			if d.Steps() != c.steps {
				t.Errorf("%d steps, want %d", d.Steps(), c.steps)
			}
		})
	}
}

// P9.1: the strays go, the one of the greatest number first, and then the last piece is cut and synced.

func TestOrderOfRecovery(t *testing.T) {
	areas := []api.Area{
		part(1, 1, "a"),
		{Name: "wal-000002", Data: append(pieceOf(2, 2, "b"), 9), Safe: 14},
		part(3, 3, "c"), part(4, 4), safe("wal-000010", nil), safe("x", nil),
	}
	for i, want := range []string{
		"wal-000001 25+0, wal-000002 14+12, wal-000003 25+0, wal-000004 14+0, wal-000010 0+0, x 0+0",
		"wal-000001 25+0, wal-000002 14+12, wal-000003 25+0, wal-000004 14+0, x 0+0",
		"wal-000001 25+0, wal-000002 14+12, wal-000003 25+0, x 0+0",
		"wal-000001 25+0, wal-000002 14+12, x 0+0",
		"wal-000001 25+0, wal-000002 14+11, x 0+0",
	} {
		d := mounted(t, 1000, areas...)
		d.Fuse(i + 1)
		wantNoOpen(t, d, api.ErrDown)
		wantDisk(t, d, want)
	}
	d := mounted(t, 1000, areas...)
	d.Fuse(6)
	_, recs := opened(t, d, 100)
	wantDisk(t, d, "wal-000001 25+0, wal-000002 25+0, x 0+0")
	if got := tell(recs); got != "1:a 2:b" || d.Steps() != 5 {
		t.Errorf("records %q, %d steps", got, d.Steps())
	}
}

func TestOpenWithoutRoom(t *testing.T) {
	// The whole frames of the last piece are pending, and there is no room for them.
	pending := api.Area{Name: "wal-000001", Data: append(pieceOf(1, 1, "b"), 9), Safe: 14}
	d := mounted(t, 24, pending)
	wantNoOpen(t, d, api.ErrFull)
	wantDisk(t, d, "wal-000001 14+11")
	d = mounted(t, 25, pending)
	_, recs := opened(t, d, 100)
	if got := tell(recs); got != "1:b" {
		t.Errorf("records %q", got)
	}
}

// P9.2: a piece is begun.

func TestBegin(t *testing.T) {
	d := disk.New(14)
	l, recs := opened(t, d, 100)
	if b, _ := d.Read("wal-000001"); !bytes.Equal(b, head(1, 1)) || len(recs) != 0 {
		t.Errorf("the piece is %x, want %x", b, head(1, 1))
	}
	wantDisk(t, d, "wal-000001 14+0")
	wantLog(t, l, 1, 1, 1)

	d = disk.New(13)
	wantNoOpen(t, d, api.ErrFull)
	wantDisk(t, d, "")
	if d.Steps() != 2 {
		t.Errorf("%d steps, want an Append and a Drop", d.Steps())
	}
	for i, want := range []string{"wal-000001 0+14", "wal-000001 0+14"} {
		d = disk.New(14)
		d.Fuse(i + 1)
		wantNoOpen(t, d, api.ErrDown)
		wantDisk(t, d, want)
		if d.Steps() != i {
			t.Errorf("%d steps, want %d", d.Steps(), i)
		}
	}
	d = disk.New(13)
	d.Fuse(2) // a Sync that finds no room is no step: so the Drop is the second one
	wantNoOpen(t, d, api.ErrDown)
	wantDisk(t, d, "wal-000001 0+14")
}

func TestBeginAmongManyAreas(t *testing.T) {
	var areas []api.Area
	for i := range api.MaxAreas {
		areas = append(areas, safe(fmt.Sprintf("x%d", i), nil))
	}
	wantNoOpen(t, mounted(t, 1000, areas...), api.ErrMany)
	areas[0] = part(1, 1, "a")
	d := mounted(t, 1000, areas...)
	l, _ := opened(t, d, 1)
	before := tellDisk(d)
	wantAppend(t, l, "b", 0, api.ErrMany)
	wantDisk(t, d, before)
	wantLog(t, l, 1, 2, 1)
	d.Drop("x1")
	wantAppend(t, l, "b", 2, api.OK)
	wantLog(t, l, 1, 3, 2)
}

// P9.3: what stands against a call.

// calls are the calls of a log that answer an Errno.
func calls() map[string]func(l *Log) api.Errno {
	return map[string]func(l *Log) api.Errno{
		"Append": func(l *Log) api.Errno {
			n, e := l.Append([]byte("x"))
			if n != 0 && e != api.OK {
				return -1
			}
			return e
		},
		"Append of too much": func(l *Log) api.Errno { _, e := l.Append(make([]byte, api.MaxRec+1)); return e },
		"Sync":               func(l *Log) api.Errno { return l.Sync() },
		"Trim":               func(l *Log) api.Errno { return l.Trim(math.MaxInt) },
		"Trim of nothing":    func(l *Log) api.Errno { return l.Trim(0) },
	}
}

func TestNoLog(t *testing.T) {
	for _, l := range []*Log{nil, {}} {
		for name, call := range calls() {
			wantErr(t, name, call(l), api.ErrArg)
		}
		wantLog(t, l, 0, 0, 0)
	}
}

func TestPowerOff(t *testing.T) {
	for name, call := range calls() {
		d := mounted(t, 1000, part(1, 1, "a"), part(2, 2, "b"))
		l, _ := opened(t, d, 100)
		d.Fuse(1)
		d.Append("x", nil) // the power fails in a step that isn't the log's
		before := tellDisk(d)
		wantErr(t, name, call(l), api.ErrDown)
		wantDisk(t, d, before)
		wantLog(t, l, 1, 3, 2)
	}
}

func TestAStepHasFailed(t *testing.T) {
	failing := map[string]func(l *Log) api.Errno{
		"Append": func(l *Log) api.Errno { _, e := l.Append(nil); return e },
		"Sync":   func(l *Log) api.Errno { return l.Sync() },
		"Trim":   func(l *Log) api.Errno { return l.Trim(2) },
	}
	for first, fail := range failing {
		for name, call := range calls() {
			d := mounted(t, 1000, part(1, 1, "a"), part(2, 2, "b"))
			l, _ := opened(t, d, 100)
			d.Fuse(1)
			wantErr(t, first, fail(l), api.ErrDown)
			d.Crash(nil)
			steps := d.Steps()
			wantErr(t, name+" behind "+first, call(l), api.ErrDown)
			if d.Steps() != steps {
				t.Errorf("%s took a step, though the power had failed", name)
			}
			wantLog(t, l, 1, 3, 2)
		}
	}
}

func TestEveryStepOfANewPieceCanFail(t *testing.T) {
	for i, want := range []string{
		"wal-000001 25+11",                   // the Sync of the full piece
		"wal-000001 36+0, wal-000002 0+14",   // the Append of the header
		"wal-000001 36+0, wal-000002 0+14",   // its Sync
		"wal-000001 36+0, wal-000002 14+11",  // the Append of the frame
		"wal-000001 36+0, wal-000002 14+11.", // none of them
	} {
		want, all := strings.CutSuffix(want, ".")
		d := mounted(t, 1000, part(1, 1, "a"))
		l, _ := opened(t, d, 30)
		wantAppend(t, l, "b", 2, api.OK)
		d.Fuse(i + 1)
		if all {
			wantAppend(t, l, "c", 3, api.OK)
			wantLog(t, l, 1, 4, 2)
			wantDisk(t, d, want)
			continue
		}
		wantAppend(t, l, "c", 0, api.ErrDown)
		wantDisk(t, d, want)
		d.Crash(nil)
		wantErr(t, "Sync behind it", l.Sync(), api.ErrDown)
	}
}

// P9.3: Append.

func TestAppend(t *testing.T) {
	d := disk.New(api.MaxRoom)
	l, _ := opened(t, d, api.MaxSeg)
	want := head(1, 1)
	for i, rec := range []string{"", "a", "bb", strings.Repeat("c", 247), strings.Repeat("d", 248), strings.Repeat("e", api.MaxRec), "f"} {
		steps := d.Steps()
		wantAppend(t, l, rec, i+1, api.OK)
		want = append(want, framed(rec)...)
		if got, _ := d.Read("wal-000001"); !bytes.Equal(got, want) {
			t.Errorf("%d bytes behind record %d, want %d", len(got), i+1, len(want))
		}
		if d.Steps() != steps+1 {
			t.Errorf("%d steps, want one", d.Steps()-steps)
		}
		wantLog(t, l, 1, i+2, 1)
	}
	wantDisk(t, d, fmt.Sprintf("wal-000001 14+%d", len(want)-14))
}

func TestAppendTooLong(t *testing.T) {
	d := mounted(t, 100000, part(1, 1, "a"))
	l, _ := opened(t, d, 1)
	steps := d.Steps()
	for _, n := range []int{api.MaxRec + 1, 2 * api.MaxRec} {
		wantAppend(t, l, strings.Repeat("x", n), 0, api.ErrBig)
	}
	// The full piece is left as it is: nothing was begun for a record that isn't taken.
	wantLog(t, l, 1, 2, 1)
	if d.Steps() != steps {
		t.Error("a step was taken")
	}
}

func TestLastNumber(t *testing.T) {
	d := mounted(t, 1000, part(999998, 1, "a"))
	l, _ := opened(t, d, 27)
	wantAppend(t, l, "b", 2, api.OK)
	wantLog(t, l, 1, 3, 2)
	wantDisk(t, d, "wal-999998 27+0, wal-999999 16+11")
	steps := d.Steps()
	wantAppend(t, l, "c", 0, api.ErrMany)
	wantAppend(t, l, strings.Repeat("c", api.MaxRec+1), 0, api.ErrBig)
	wantLog(t, l, 1, 3, 2)
	if d.Steps() != steps {
		t.Error("a step was taken")
	}
	wantErr(t, "Sync", l.Sync(), api.OK)
	wantDisk(t, d, "wal-999998 27+0, wal-999999 27+0")
	// While it has place, the last piece of all takes records as any other.
	l, _ = opened(t, d, 28)
	wantAppend(t, l, "c", 3, api.OK)
}

func TestAppendWithoutRoom(t *testing.T) {
	// The full piece itself has no room to be synced.
	d := mounted(t, 30, part(1, 1, "a"))
	l, _ := opened(t, d, 30)
	wantAppend(t, l, "b", 2, api.OK)
	wantAppend(t, l, "c", 0, api.ErrFull)
	wantDisk(t, d, "wal-000001 25+11")
	wantLog(t, l, 1, 3, 1)

	// It has, but the header of the next one hasn't.
	d = mounted(t, 49, part(1, 1, "a"))
	l, _ = opened(t, d, 30)
	wantAppend(t, l, "b", 2, api.OK)
	wantAppend(t, l, "c", 0, api.ErrFull)
	wantDisk(t, d, "wal-000001 36+0")
	wantLog(t, l, 1, 3, 1)

	// The power fails in the Drop of the piece that couldn't be begun.
	d.Fuse(3)
	wantAppend(t, l, "c", 0, api.ErrDown)
	wantDisk(t, d, "wal-000001 36+0, wal-000002 0+14")
	wantLog(t, l, 1, 3, 1)
	d.Crash([]int{0, 14})
	wantAppend(t, l, "c", 0, api.ErrDown)
	l, recs := opened(t, d, 30)
	if got := tell(recs); got != "1:a 2:b" {
		t.Errorf("records %q", got)
	}
	wantDisk(t, d, "wal-000001 36+0")

	// With room again, all goes on.
	d = mounted(t, 50, part(1, 1, "a"), safe("x", []byte("x")))
	l, _ = opened(t, d, 30)
	wantAppend(t, l, "b", 2, api.OK)
	wantAppend(t, l, "c", 0, api.ErrFull)
	d.Drop("x")
	wantAppend(t, l, "c", 3, api.OK)
	wantErr(t, "Sync", l.Sync(), api.ErrFull)
	wantDisk(t, d, "wal-000001 36+0, wal-000002 14+11")
}

// P9.3: Sync.

func TestSync(t *testing.T) {
	d := disk.New(36)
	l, _ := opened(t, d, 100)
	wantErr(t, "Sync of nothing", l.Sync(), api.OK)
	wantAppend(t, l, "a", 1, api.OK)
	wantAppend(t, l, "b", 2, api.OK)
	wantDisk(t, d, "wal-000001 14+22")
	steps := d.Steps()
	wantErr(t, "Sync", l.Sync(), api.OK)
	wantDisk(t, d, "wal-000001 36+0")
	if d.Steps() != steps+1 {
		t.Errorf("%d steps, want one", d.Steps()-steps)
	}
	wantAppend(t, l, "c", 3, api.OK)
	wantErr(t, "Sync", l.Sync(), api.ErrFull)
	wantDisk(t, d, "wal-000001 36+11")
	wantAppend(t, l, "d", 4, api.OK)
	d.Fuse(1)
	// There is no room, so it is no step, and the power doesn't fail.
	wantErr(t, "Sync", l.Sync(), api.ErrFull)
	wantLog(t, l, 1, 5, 1)
}

// P9.4: Trim.

func TestTrim(t *testing.T) {
	areas := []api.Area{part(4, 10, "a", "b"), part(5, 12, "c"), part(6, 13, "d", "e", "f"), part(7, 16)}
	for _, c := range []struct{ index, first, pieces int }{
		{math.MinInt, 10, 4}, {-1, 10, 4}, {0, 10, 4}, {10, 10, 4}, {11, 10, 4},
		{12, 12, 3}, {13, 13, 2}, {14, 13, 2}, {15, 13, 2}, {16, 16, 1}, {17, 16, 1}, {math.MaxInt, 16, 1},
	} {
		d := mounted(t, 1000, areas...)
		l, _ := opened(t, d, 100)
		steps := d.Steps()
		wantErr(t, "Trim", l.Trim(c.index), api.OK)
		wantLog(t, l, c.first, 16, c.pieces)
		if names := d.List(); len(names) != c.pieces || names[c.pieces-1] != "wal-000007" {
			t.Errorf("Trim(%d) leaves %v", c.index, names)
		}
		if d.Steps()-steps != 4-c.pieces {
			t.Errorf("Trim(%d) takes %d steps", c.index, d.Steps()-steps)
		}
		// What is appended goes on as ever.
		wantAppend(t, l, "g", 16, api.OK)
		wantErr(t, "Sync", l.Sync(), api.OK)
		d.Crash(nil)
		again, recs := opened(t, d, 100)
		wantLog(t, again, c.first, 17, c.pieces)
		if len(recs) != 17-c.first || recs[0].Index != c.first {
			t.Errorf("records %q behind Trim(%d)", tell(recs), c.index)
		}
	}
}

func TestTrimFails(t *testing.T) {
	areas := []api.Area{part(4, 10, "a", "b"), part(5, 12, "c"), part(6, 13, "d", "e", "f"), part(7, 16)}
	for i, first := range []int{10, 12, 13} {
		d := mounted(t, 1000, areas...)
		l, _ := opened(t, d, 100)
		d.Fuse(i + 1)
		wantErr(t, "Trim", l.Trim(16), api.ErrDown)
		wantLog(t, l, first, 16, 4-i)
		d.Crash(nil)
		l, _ = opened(t, d, 100)
		wantLog(t, l, first, 16, 4-i)
	}
	// The first error of a step ends it, whatever it is.
	d := mounted(t, 1000, areas...)
	l, _ := opened(t, d, 100)
	d.Drop("wal-000005")
	wantErr(t, "Trim", l.Trim(16), api.ErrNone)
	wantLog(t, l, 12, 16, 3)
	wantErr(t, "Sync", l.Sync(), api.OK)
}

// P9.5: First, Next and Pieces follow what is done.

func TestFirstNextPieces(t *testing.T) {
	d := disk.New(1000)
	l, _ := opened(t, d, 30)
	wantLog(t, l, 1, 1, 1)
	for i := range 6 {
		wantAppend(t, l, "x", i+1, api.OK)
		wantLog(t, l, 1, i+2, 1+i/2)
	}
	wantErr(t, "Trim", l.Trim(4), api.OK)
	wantLog(t, l, 3, 7, 2)
	d.Fuse(1)
	d.Drop("none")
	d.Append("x", nil)
	// They are no calls with an Errno: the power may be off.
	wantLog(t, l, 3, 7, 2)
}

// Rule 4: what is handed in is neither changed nor kept, and an answer is new memory.

func TestMemory(t *testing.T) {
	d := disk.New(1000)
	l, _ := opened(t, d, 100)
	room := []byte("abcdef")
	data := room[:3]
	l.Append(data)
	if string(room) != "abcdef" {
		t.Errorf("the record is now %q", room)
	}
	data[0] = 'x'
	l.Append([]byte("second"))
	l.Sync()
	_, recs := opened(t, d, 100)
	if got := tell(recs); got != "1:abc 2:second" {
		t.Errorf("records %q", got)
	}
	for i := range recs {
		for j := range recs[i].Data {
			recs[i].Data[j] = '?'
		}
		_ = append(recs[i].Data, "over and over"...)
	}
	_, again := opened(t, d, 100)
	if got := tell(again); got != "1:abc 2:second" {
		t.Errorf("records %q", got)
	}
}

// Rule 6: two logs on two disks never meet.

func TestTwoDisks(t *testing.T) {
	one, two := disk.New(1000), disk.New(1000)
	a, _ := opened(t, one, 30)
	b, _ := opened(t, two, 30)
	for i := range 5 {
		wantAppend(t, a, "a", i+1, api.OK)
	}
	wantAppend(t, b, "b", 1, api.OK)
	wantLog(t, a, 1, 6, 3)
	wantLog(t, b, 1, 2, 1)
	one.Fuse(1)
	wantErr(t, "Sync", a.Sync(), api.ErrDown)
	wantErr(t, "Sync", b.Sync(), api.OK)
}

// P9.6: what is there behind a loss of power.

// keeper knows what a log must have behind a loss of power.
type keeper struct {
	t     *testing.T
	rnd   *rand.Rand
	d     *disk.Disk
	l     *Log
	limit int
	tried map[int][]byte // by index, what was appended last, safe or not
	sure  int            // the last index that must be there
	most  int            // the last index that can be there
}

// open opens the log, and asks that it has what it must have and nothing else.
func (k *keeper) open() {
	first := 0
	if k.l != nil {
		first = k.l.First()
	}
	l, recs, e := Open(k.d, k.limit)
	for e == api.ErrDown {
		k.crash()
		if k.rnd.Intn(2) == 0 {
			k.d.Fuse(1 + k.rnd.Intn(3))
		}
		l, recs, e = Open(k.d, k.limit)
	}
	if e == api.ErrFull {
		// Bytes that were pending ahead of it have no room: a loss of power takes them.
		k.d.Crash(nil)
		l, recs, e = Open(k.d, k.limit)
	}
	if e != api.OK {
		k.t.Fatalf("Open = %d", e)
	}
	if first != 0 && l.First() != first {
		k.t.Fatalf("First = %d, want %d", l.First(), first)
	}
	if l.Next()-1 < k.sure || l.Next()-1 > k.most || l.Next() != l.First()+len(recs) {
		k.t.Fatalf("%d records from %d on, Next = %d, want %d to %d", len(recs), l.First(), l.Next(), k.sure, k.most)
	}
	for i, r := range recs {
		if r.Index != l.First()+i || !bytes.Equal(r.Data, k.tried[r.Index]) {
			k.t.Fatalf("record %d is %x, want %x", r.Index, r.Data, k.tried[r.Index])
		}
	}
	k.l = l
	k.sure, k.most = l.Next()-1, l.Next()-1
	k.whole()
}

// whole asks that the pieces on the disk are what the log says, frame by frame.
func (k *keeper) whole() {
	var names []string
	for _, a := range k.d.Image() {
		if !strings.HasPrefix(a.Name, "wal-") {
			continue
		}
		names = append(names, a.Name)
		if a.Safe != len(a.Data) {
			k.t.Fatalf("%s has pending bytes behind an Open", a.Name)
		}
	}
	if len(names) != k.l.Pieces() {
		k.t.Fatalf("pieces %v, want %d", names, k.l.Pieces())
	}
}

// crash takes the power away, with anything kept of what is pending, and gives it back.
func (k *keeper) crash() {
	keep := make([]int, k.rnd.Intn(80))
	for i := range keep {
		keep[i] = k.rnd.Intn(60)
	}
	k.d.Crash(keep)
}

// append appends a record of any length.
func (k *keeper) append() {
	data := make([]byte, k.rnd.Intn(12))
	k.rnd.Read(data)
	pieces, next := k.l.Pieces(), k.l.Next()
	index, e := k.l.Append(data)
	if k.l.Pieces() > pieces {
		k.sure = next - 1
	}
	switch e {
	case api.OK:
		if index != next {
			k.t.Fatalf("index %d, want %d", index, next)
		}
		k.tried[index], k.most = data, index
	case api.ErrDown:
		// The frame may be there or not; where a step ahead of it has failed, it can't.
		k.tried[next], k.most = data, next
	}
}

// step does any one thing.
func (k *keeper) step() {
	switch n := k.rnd.Intn(20); {
	case n < 11:
		k.append()
	case n < 13:
		if k.l.Sync() == api.OK {
			k.sure = k.l.Next() - 1
		}
	case n < 14:
		k.l.Trim(k.l.Next() - k.rnd.Intn(10))
	case n < 16:
		k.d.Fuse(1 + k.rnd.Intn(6))
	case n < 17:
		k.crash()
		k.open()
	case n < 18:
		k.open()
	case n < 19:
		k.d.Append("other", make([]byte, k.rnd.Intn(40)))
		k.d.Sync("other")
	default:
		k.d.Drop("other")
	}
	if k.d.Down() {
		k.crash()
		k.open()
	}
}

func TestLossOfPower(t *testing.T) {
	for seed := range int64(400) {
		rnd := rand.New(rand.NewSource(seed))
		k := &keeper{t: t, rnd: rnd, d: disk.New(60 + rnd.Intn(600)), limit: rnd.Intn(90), tried: map[int][]byte{}}
		k.open()
		for range 300 {
			k.step()
		}
	}
}

// Every step of a short life fails once, with every number of bytes kept.

func TestEveryStepEveryByte(t *testing.T) {
	life := func(d *disk.Disk) (sure, most int) {
		l, _, e := Open(d, 30)
		if e != api.OK {
			return 0, 0
		}
		for i := range 6 {
			pieces := l.Pieces()
			if _, e = l.Append([]byte{byte(i)}); l.Pieces() > pieces {
				sure = i
			}
			most = i + 1
			if e != api.OK {
				return sure, most
			}
			if i%4 == 2 && l.Sync() == api.OK {
				sure = i + 1
			}
		}
		return sure, most
	}
	for fuse := 1; fuse < 20; fuse++ {
		for kept := range 30 {
			d := disk.New(1000)
			d.Fuse(fuse)
			sure, most := life(d)
			d.Crash(slices.Repeat([]int{kept}, 9))
			_, recs := opened(t, d, 30)
			if len(recs) < sure || len(recs) > most {
				t.Errorf("fuse %d, kept %d: %d records, want %d to %d", fuse, kept, len(recs), sure, most)
			}
			for i, r := range recs {
				if r.Index != i+1 || !bytes.Equal(r.Data, []byte{byte(i)}) {
					t.Errorf("fuse %d, kept %d: record %d is %x", fuse, kept, r.Index, r.Data)
				}
			}
		}
	}
}

// The chapter's examples.

func TestExamples(t *testing.T) {
	d := disk.New(1000)
	l, _ := opened(t, d, 100)
	b, _ := d.Read("wal-000001")
	if len(b) != 14 || !bytes.Equal(b[:6], []byte{1, 12, 1, 1, 1, 1}) {
		t.Errorf("the piece is %x", b)
	}
	wantAppend(t, l, "\x07\x07", 1, api.OK)
	b, _ = d.Read("wal-000001")
	if len(b) != 26 || !bytes.Equal(b[14:18], []byte{1, 10, 7, 7}) {
		t.Errorf("the piece is %x", b)
	}
	d.Crash([]int{11})
	_, recs := opened(t, d, 100)
	if len(recs) != 0 {
		t.Errorf("records %q", tell(recs))
	}
	wantDisk(t, d, "wal-000001 14+0")
}

// Whatever lies in the areas, an Open ends, and a second one finds what the first one gave.

func FuzzOpen(f *testing.F) {
	f.Add(pieceOf(1, 1, "a", "b"), pieceOf(2, 3, "c"), 3)
	f.Add(pieceOf(1, 1, "a", "b")[:40], pieceOf(2, 2, "c"), 0)
	f.Add([]byte{}, []byte{1, 12, 1, 2, 1, 1}, 1)
	f.Fuzz(func(t *testing.T, one, two []byte, safeBytes int) {
		if len(one) > 1<<16 || len(two) > 1<<16 {
			return
		}
		d, e := disk.Mount(api.MaxRoom, []api.Area{
			{Name: "wal-000001", Data: one, Safe: min(max(safeBytes, 0), len(one))},
			safe("wal-000002", two),
		})
		if e != api.OK {
			t.Fatal(e)
		}
		l, recs := opened(t, d, 50)
		next := l.Next()
		if next > api.MaxSlot {
			return
		}
		if _, e := l.Append([]byte("more")); e != api.OK || l.Sync() != api.OK {
			t.Fatalf("Append = %d", e)
		}
		_, again := opened(t, d, 50)
		if tell(again) != tell(append(recs, api.Rec{Index: next, Data: []byte("more")})) {
			t.Errorf("records %q, then %q", tell(recs), tell(again))
		}
	})
}
