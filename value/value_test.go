package value

import (
	"bytes"
	"math"
	"reflect"
	"slices"
	"testing"

	"synod/api"
	"synod/app"
	"synod/ballot"
	"synod/pack"
)

// command is a right command that differs from its neighbours in every field but the Op's.
func command(n int) api.Cmd {
	return api.Cmd{Sess: n + 1, Seq: n + 2, Ack: n, Op: api.Op{Kind: api.Take, Reg: n % 8, To: (n + 1) % 8, Re: -n, Im: n * 1000}}
}

func commands(n int) []api.Cmd {
	var out []api.Cmd
	for i := range n {
		out = append(out, command(i))
	}
	return out
}

// numbers are where a command's numbers stand, in the order in which they are written.
func numbers(c *api.Cmd) [8]*int {
	return [8]*int{&c.Sess, &c.Seq, &c.Ack, &c.Op.Kind, &c.Op.Reg, &c.Op.To, &c.Op.Re, &c.Op.Im}
}

func batch(cmds ...api.Cmd) api.Val { return api.Val{Kind: api.Batch, Cmds: cmds} }

func stop(next ...int) api.Val { return api.Val{Kind: api.Stop, Next: next} }

// widest is the right command of the most bytes.
func widest() api.Cmd {
	return api.Cmd{Sess: api.MaxSessNo, Seq: api.MaxSeq, Ack: api.MaxSeq - 1, Op: api.Op{Kind: api.Take, Reg: 7, To: 7, Re: -api.MaxPart, Im: api.MaxPart}}
}

// rightVals are values of all kinds, with the least and the most of their lists and numbers.
func rightVals() []api.Val {
	return []api.Val{
		{}, {Cmds: []api.Cmd{}, Next: []int{}},
		batch(command(0)), batch(commands(2)...), batch(commands(8)...), batch(widest()), batch(slices.Repeat([]api.Cmd{widest()}, 8)...),
		batch(api.Cmd{Sess: 1, Seq: 1, Op: api.Op{Kind: api.Get}}), {Kind: api.Batch, Cmds: commands(1), Next: []int{}},
		stop(1), stop(9), stop(1, 2), stop(2, 3, 5), stop(1, 2, 3, 4, 5, 6, 7), stop(3, 4, 5, 6, 7, 8, 9), {Kind: api.Stop, Cmds: []api.Cmd{}, Next: []int{4}},
	}
}

type wrongVal struct {
	v api.Val
	e api.Errno
}

// wrongVals are no right ones; of some of them several things are wrong, and the one named first counts.
func wrongVals() []wrongVal {
	noCmd, noOp := api.Cmd{Sess: 0, Seq: 1, Op: api.Op{Kind: api.Get}}, api.Cmd{Sess: 1, Seq: 1}
	list := []wrongVal{
		{api.Val{Cmds: commands(1)}, api.ErrVal}, {api.Val{Next: []int{1}}, api.ErrVal}, {api.Val{Cmds: commands(1), Next: []int{1}}, api.ErrVal}, {api.Val{Next: []int{0}}, api.ErrVal}, {api.Val{Cmds: []api.Cmd{noCmd}}, api.ErrVal},
		{batch(), api.ErrVal}, {api.Val{Kind: api.Batch, Cmds: []api.Cmd{}}, api.ErrVal}, {batch(commands(9)...), api.ErrVal}, {batch(make([]api.Cmd, 9)...), api.ErrVal}, {batch(make([]api.Cmd, 1000)...), api.ErrVal},
		{api.Val{Kind: api.Batch, Next: []int{1}}, api.ErrVal}, {api.Val{Kind: api.Batch, Cmds: commands(1), Next: []int{1}}, api.ErrVal}, {api.Val{Kind: api.Batch, Cmds: []api.Cmd{noCmd}, Next: []int{1}}, api.ErrVal},
		{api.Val{Kind: api.Stop, Cmds: commands(1), Next: []int{1, 2}}, api.ErrVal}, {api.Val{Kind: api.Stop, Cmds: commands(1)}, api.ErrVal}, {api.Val{Kind: api.Stop, Cmds: []api.Cmd{noCmd}, Next: []int{2, 1}}, api.ErrVal},
		{batch(noCmd), api.ErrCmd}, {batch(noOp), api.ErrOp}, {batch(noCmd, noOp), api.ErrCmd}, {batch(noOp, noCmd), api.ErrOp}, {batch(command(0), noOp, noCmd), api.ErrOp}, {batch(append(commands(7), noCmd)...), api.ErrCmd}, {batch(append(commands(7), noOp)...), api.ErrOp}, {batch(make([]api.Cmd, 8)...), api.ErrCmd},
	}
	for _, kind := range []int{math.MinInt, -1, 3, 4, 256, math.MaxInt} {
		for _, v := range []api.Val{{}, batch(command(0)), stop(1), stop()} {
			v.Kind = kind
			list = append(list, wrongVal{v, api.ErrVal})
		}
	}
	for _, next := range [][]int{nil, {}, {0}, {10}, {-1}, {2, 2}, {3, 2}, {1, 2, 3, 4, 5, 6, 7, 8}, {1, math.MaxInt}, make([]int, 1000)} {
		list = append(list, wrongVal{stop(next...), api.ErrSet})
	}
	return list
}

// P6.1

func TestCheckCmdBounds(t *testing.T) {
	edges := []int{math.MinInt, -1, 0, 1, 2, api.MaxSessNo - 1, api.MaxSessNo, api.MaxSessNo + 1, api.MaxSeq - 1, api.MaxSeq, api.MaxSeq + 1, math.MaxInt - 1, math.MaxInt}
	for _, sess := range edges {
		for _, seq := range edges {
			for _, ack := range append(edges, seq-1) {
				inBounds := sess >= 1 && sess <= 1<<30 && seq >= 1 && seq <= 1<<40 && ack >= 0 && ack < seq
				for _, op := range []api.Op{{Kind: api.Get}, {Kind: api.Put, Reg: 7, Re: api.MaxPart}, {}, {Kind: api.Get, To: 1}, {Kind: 8}} {
					want := app.Check(op)
					if !inBounds {
						want = api.ErrCmd
					}
					c := api.Cmd{Sess: sess, Seq: seq, Ack: ack, Op: op}
					if got := CheckCmd(c); got != want {
						t.Errorf("CheckCmd(%v) = %d, want %d", c, got, want)
					}
				}
			}
		}
	}
}

func TestCheckCmdOps(t *testing.T) {
	for kind := -1; kind <= 8; kind++ {
		for _, reg := range []int{-1, 0, 7, 8} {
			for _, to := range []int{-1, 0, 3, 4, 7, 8} {
				for _, part := range []int{0, 1, api.MaxPart, api.MaxPart + 1} {
					op := api.Op{Kind: kind, Reg: reg, To: to, Re: part, Im: -part}
					if got := CheckCmd(api.Cmd{Sess: 3, Seq: 9, Ack: 8, Op: op}); got != app.Check(op) {
						t.Errorf("CheckCmd with %v = %d", op, got)
					}
				}
			}
		}
	}
}

func TestCheck(t *testing.T) {
	for _, v := range rightVals() {
		if got := Check(v); got != api.OK {
			t.Errorf("Check(%v) = %d", v, got)
		}
	}
	for _, x := range wrongVals() {
		if got := Check(x.v); got != x.e {
			t.Errorf("Check(%v) = %d, want %d", x.v, got, x.e)
		}
	}
}

// TestCheckEveryShape holds all counts of commands and of next members, right ones each, against what the document says.
func TestCheckEveryShape(t *testing.T) {
	members := []int{1, 2, 3, 4, 5, 6, 7, 8, 9}
	for kind := -1; kind <= 3; kind++ {
		for cmds := range 11 {
			for next := range len(members) + 1 {
				want := api.ErrVal
				switch {
				case kind == 0 && cmds == 0 && next == 0, kind == 1 && cmds >= 1 && cmds <= 8 && next == 0:
					want = api.OK
				case kind == 2 && cmds == 0:
					want = ballot.Check(members[:next])
				}
				if got := Check(api.Val{Kind: kind, Cmds: commands(cmds), Next: members[:next]}); got != want {
					t.Errorf("kind %d, %d commands, %d next: %d, want %d", kind, cmds, next, got, want)
				}
			}
		}
	}
}

// P6.2

// different are values none of which is the same as another one.
func different() []api.Val {
	first, second := command(1), command(2)
	out := []api.Val{
		{}, {Kind: 1}, {Kind: 2}, {Kind: -1}, {Kind: 3}, batch(first), batch(second), batch(first, second), batch(second, first), batch(first, first), batch(first, second, first), {Cmds: []api.Cmd{first}}, {Kind: api.Stop, Cmds: []api.Cmd{first}},
		stop(1), stop(2), stop(1, 2), stop(2, 1), stop(1, 2, 3), {Next: []int{1}}, {Kind: api.Batch, Next: []int{1}}, {Kind: api.Batch, Cmds: []api.Cmd{first}, Next: []int{1}},
		batch(api.Cmd{}), batch(api.Cmd{}, api.Cmd{}), stop(0), stop(0, 0),
	}
	for i := range 8 {
		c := first
		*numbers(&c)[i] += 100
		out = append(out, batch(c))
	}
	return out
}

func TestSame(t *testing.T) {
	for i, a := range different() {
		for k, b := range different() {
			if got := Same(a, b); got != (i == k) {
				t.Errorf("Same(%v, %v) = %v", a, b, got)
			}
		}
	}
	if !Same(api.Val{}, api.Val{Cmds: []api.Cmd{}, Next: []int{}}) || !Same(api.Val{Kind: 2, Cmds: []api.Cmd{}, Next: []int{1}}, stop(1)) {
		t.Error("nil and empty are two")
	}
	room := []int{1, 2, 3}
	if !Same(stop(room[:2]...), stop(1, 2)) {
		t.Error("the room behind a list counts")
	}
}

func TestClone(t *testing.T) {
	for _, v := range append(rightVals(), different()...) {
		if got := Clone(v); !Same(got, v) {
			t.Errorf("Clone(%v) = %v", v, got)
		}
	}
}

func TestCloneIsNewMemory(t *testing.T) {
	cmds, next := commands(3), []int{1, 2, 3}
	v := api.Val{Kind: 7, Cmds: cmds[:2], Next: next[:2]}
	c := Clone(v)
	clear(cmds)
	clear(next)
	if !reflect.DeepEqual(c, api.Val{Kind: 7, Cmds: commands(2), Next: []int{1, 2}}) {
		t.Errorf("the clone became %v", c)
	}
	clear(c.Cmds)
	_ = append(c.Cmds, command(9))
	_ = append(c.Next, 9)
	c.Next[0] = 9
	if cmds[2] != (api.Cmd{}) || next[2] != 0 || next[0] != 0 {
		t.Errorf("what was cloned became %v, %v", cmds, next)
	}
	for _, empty := range []api.Val{{}, {Cmds: commands(2)[:0], Next: next[:0]}} {
		e := Clone(empty)
		_ = append(e.Next, 9)
		if next[0] != 0 || len(e.Cmds)+len(e.Next) != 0 {
			t.Error("the clone of an empty list has its room")
		}
	}
}

// P6.3

func TestEncodeBytes(t *testing.T) {
	cmd := api.Cmd{Sess: 5, Seq: 300, Ack: 1, Op: api.Op{Kind: api.Take, Reg: 2, To: 6, Re: -3, Im: 4}}
	cmdBytes := []byte{1, 10, 2, 2, 88, 1, 2, 1, 14, 1, 4, 1, 12, 1, 5, 1, 8}
	least := api.Cmd{Sess: 1, Seq: 1, Op: api.Op{Kind: api.Get}}
	leastBytes := []byte{1, 2, 1, 2, 0, 1, 2, 0, 0, 0, 0}
	widestBytes := []byte{4, 0x80, 0, 0, 0, 6, 2, 0, 0, 0, 0, 0, 6, 1, 0xff, 0xff, 0xff, 0xff, 0xfe, 1, 14, 1, 14, 1, 14, 3, 0x1f, 0xff, 0xff, 3, 0x20, 0, 0}
	for _, x := range []struct {
		v api.Val
		b []byte
	}{
		{api.Val{}, []byte{0, 0, 0}},
		{stop(1, 2), []byte{1, 2, 0, 1, 2, 1, 1, 1, 2}},
		{stop(9), []byte{1, 2, 0, 1, 1, 1, 9}},
		{batch(cmd), slices.Concat([]byte{1, 1, 1, 1}, cmdBytes, []byte{0})},
		{batch(least, cmd), slices.Concat([]byte{1, 1, 1, 2}, leastBytes, cmdBytes, []byte{0})},
		{batch(widest()), slices.Concat([]byte{1, 1, 1, 1}, widestBytes, []byte{0})},
	} {
		if got, e := Encode(x.v); e != api.OK || !bytes.Equal(got, x.b) {
			t.Errorf("Encode(%v) = %x, %d, want %x", x.v, got, e, x.b)
		}
		if got, e := Decode(x.b); e != api.OK || !Same(got, x.v) {
			t.Errorf("Decode(%x) = %v, %d, want %v", x.b, got, e, x.v)
		}
	}
}

func TestThereAndBack(t *testing.T) {
	for _, v := range rightVals() {
		b, e := Encode(v)
		got, f := Decode(b)
		if e != api.OK || f != api.OK || !Same(got, v) {
			t.Errorf("%v: %x, %d, and back %v, %d", v, b, e, got, f)
		}
	}
}

func TestEncodeOfWrongValues(t *testing.T) {
	for _, x := range wrongVals() {
		if b, e := Encode(x.v); e != x.e || len(b) != 0 {
			t.Errorf("Encode(%v) = %x, %d, want %d", x.v, b, e, x.e)
		}
	}
}

func wantDecode(t *testing.T, b []byte, err api.Errno) {
	t.Helper()
	if v, e := Decode(b); e != err || !Same(v, api.Val{}) {
		t.Errorf("Decode(%x) = %v, %d, want %d", b, v, e, err)
	}
}

// written is the bytes of a value, right or not.
func written(v api.Val) []byte {
	w := pack.NewWriter()
	Write(w, v)
	return w.Bytes()
}

func TestDecodeOfCutAndLongBytes(t *testing.T) {
	for _, v := range rightVals() {
		b, _ := Encode(v)
		for n := range b {
			wantDecode(t, b[:n], api.ErrShort)
		}
		wantDecode(t, append(b, 0), api.ErrTrail)
		wantDecode(t, append(b, 9), api.ErrTrail)
		wantDecode(t, append(b, b...), api.ErrTrail)
	}
	wantDecode(t, nil, api.ErrShort)
}

func TestDecodeReadsCountsByTheirMost(t *testing.T) {
	tail := make([]byte, 200)
	for _, x := range []struct {
		b []byte
		e api.Errno
	}{
		{[]byte{1, 3, 0, 0}, api.ErrBig}, {[]byte{1, 255, 0, 0}, api.ErrBig}, {[]byte{1, 3}, api.ErrBig}, {append([]byte{8, 255, 255, 255, 255, 255, 255, 255, 255}, tail...), api.ErrBig},
		{append([]byte{1, 1, 1, 9}, tail...), api.ErrBig}, {[]byte{1, 1, 1, 9}, api.ErrBig}, {append([]byte{0, 1, 9}, tail...), api.ErrBig}, {append([]byte{0, 1, 8}, tail[:65]...), api.ErrVal}, {append([]byte{1, 1, 1, 8}, tail[:65]...), api.ErrCmd}, {append([]byte{1, 1, 1, 8}, tail[:64]...), api.ErrShort},
		{append([]byte{1, 2, 0, 1, 8}, tail...), api.ErrBig}, {[]byte{1, 2, 0, 1, 8}, api.ErrBig}, {append([]byte{0, 0, 1, 8}, tail...), api.ErrBig}, {append([]byte{1, 2, 0, 1, 7}, tail[:7]...), api.ErrSet}, {append([]byte{0, 0, 1, 7}, tail[:7]...), api.ErrVal},
		{[]byte{1, 2, 0, 1, 1, 1, 10}, api.ErrBig}, {[]byte{1, 2, 0, 1, 2, 1, 10, 1, 1}, api.ErrBig}, {[]byte{1, 2, 0, 1, 2, 1, 9, 1, 10}, api.ErrBig}, {[]byte{1, 2, 0, 1, 2, 1, 9, 1, 9}, api.ErrSet}, {[]byte{1, 2, 0, 1, 1, 0}, api.ErrSet},
		{[]byte{1, 0, 0, 0}, api.ErrForm}, {[]byte{0, 1, 0, 0}, api.ErrForm}, {[]byte{0, 0, 9}, api.ErrForm}, {[]byte{1, 1, 1, 1, 1, 0}, api.ErrForm}, {[]byte{1, 2, 0, 1, 1, 2, 0, 1}, api.ErrForm},
	} {
		wantDecode(t, x.b, x.e)
	}
}

func TestDecodeOfWrongValues(t *testing.T) {
	for _, x := range wrongVals() {
		want := x.e
		if x.v.Kind < 0 || x.v.Kind > 2 || len(x.v.Cmds) > 8 || len(x.v.Next) > 7 || slices.ContainsFunc(x.v.Next, func(n int) bool { return n < 0 || n > 9 }) {
			want = api.ErrBig
		}
		wantDecode(t, written(x.v), want)
		// The reader's error comes ahead of Check's.
		if want != api.ErrBig {
			wantDecode(t, append(written(x.v), 0), api.ErrTrail)
		}
	}
}

func TestDecodeLooksAtEveryNumberOfACommand(t *testing.T) {
	for i := range 8 {
		want := api.ErrOp
		if i < 3 {
			want = api.ErrCmd
		}
		for _, n := range []int{math.MinInt, math.MaxInt, api.MaxSeq + 1} {
			c := command(0)
			*numbers(&c)[i] = n
			wantDecode(t, written(batch(c)), want)
			wantDecode(t, written(batch(command(1), c)), want)
		}
	}
}

func TestDecodeKeepsNothing(t *testing.T) {
	b, _ := Encode(batch(commands(2)...))
	room := append(slices.Clone(b), 7, 7)
	v, e := Decode(room[:len(b)])
	if e != api.OK || !bytes.Equal(room, append(slices.Clone(b), 7, 7)) {
		t.Fatalf("Decode changed what it was handed: %x, %d", room, e)
	}
	clear(room)
	if !Same(v, batch(commands(2)...)) {
		t.Errorf("the value became %v", v)
	}
	again, _ := Decode(b)
	clear(v.Cmds)
	if !Same(again, batch(commands(2)...)) {
		t.Error("two answers share memory")
	}
}

// FuzzDecode holds bytes of any kind against what Encode makes of what they are read as.
func FuzzDecode(f *testing.F) {
	for _, v := range rightVals() {
		f.Add(written(v))
	}
	for _, x := range wrongVals() {
		f.Add(written(x.v))
	}
	f.Fuzz(func(t *testing.T, b []byte) {
		v, e := Decode(b)
		if e != api.OK {
			if !Same(v, api.Val{}) {
				t.Errorf("Decode(%x) = %v, %d", b, v, e)
			}
			return
		}
		if got, e := Encode(v); e != api.OK || !bytes.Equal(got, b) {
			t.Errorf("%x is read as %v, and written as %x, %d", b, v, got, e)
		}
	})
}

// P6.4

func TestWritesStandBehindOneAnother(t *testing.T) {
	w := pack.NewWriter().Num(7)
	PutCmd(w, api.Cmd{Sess: 1, Seq: 2, Ack: 3, Op: api.Op{Kind: 4, Reg: 5, To: 6, Re: -7, Im: 8}})
	Write(w, stop(4))
	PutCmd(w, api.Cmd{})
	Write(w, api.Val{})
	want := []byte{1, 7, 1, 2, 1, 4, 1, 6, 1, 8, 1, 10, 1, 12, 1, 13, 1, 16, 1, 2, 0, 1, 1, 1, 4, 0, 0, 0, 0, 0, 0, 0, 0, 0, 0, 0}
	if got := w.Bytes(); !bytes.Equal(got, want) {
		t.Errorf("wrote %x, want %x", got, want)
	}
}

func TestReadsGoOnBehindOneAnother(t *testing.T) {
	w := pack.NewWriter().Num(7)
	PutCmd(w, command(3))
	for _, v := range rightVals() {
		Write(w, v)
	}
	w.Num(8)
	r := pack.NewReader(w.Bytes())
	if n, c := r.Num(), TakeCmd(r); n != 7 || c != command(3) {
		t.Errorf("read %d, %v", n, c)
	}
	for _, v := range rightVals() {
		if got := Read(r); !Same(got, v) {
			t.Errorf("read %v, want %v", got, v)
		}
	}
	if n := r.Num(); n != 8 || r.Done() != api.OK {
		t.Errorf("behind the values: %d, %d", n, r.Err())
	}
}

func TestTakeCmdLooksAtNoBounds(t *testing.T) {
	for _, c := range []api.Cmd{{}, {Sess: -1, Seq: math.MinInt, Ack: math.MaxInt, Op: api.Op{Kind: -8, Reg: 99, To: -99, Re: math.MaxInt, Im: math.MinInt}}, {Sess: math.MaxInt}} {
		w := pack.NewWriter()
		PutCmd(w, c)
		r := pack.NewReader(w.Bytes())
		if got := TakeCmd(r); got != c || r.Done() != api.OK {
			t.Errorf("%v was read as %v, %d", c, got, r.Err())
		}
	}
}

func TestReadLooksAtTheCountsAlone(t *testing.T) {
	for _, v := range []api.Val{{Cmds: commands(3), Next: []int{9, 0, 9}}, batch(), batch(make([]api.Cmd, 8)...), stop(), stop(9, 8, 7, 7, 7, 0, 1), {Kind: api.Stop, Cmds: commands(8), Next: []int{0, 0, 0, 0, 0, 0, 0}}} {
		r := pack.NewReader(written(v))
		if got := Read(r); !Same(got, v) || r.Done() != api.OK {
			t.Errorf("%v was read as %v, %d", v, got, r.Err())
		}
	}
	for _, v := range []api.Val{{Kind: 3}, {Kind: -1}, batch(commands(9)...), stop(1, 2, 3, 4, 5, 6, 7, 8), stop(10), stop(-1), stop(1, 2, math.MaxInt)} {
		r := pack.NewReader(written(v))
		if Read(r); r.Err() != api.ErrBig {
			t.Errorf("%v was read with %d", v, r.Err())
		}
	}
}

func TestWriteKeepsNothing(t *testing.T) {
	cmds, next := commands(2), []int{1, 2, 3}
	v := api.Val{Kind: api.Batch, Cmds: cmds[:1], Next: next[:2]}
	w := pack.NewWriter()
	Write(w, v)
	PutCmd(w, cmds[1])
	want := w.Bytes()
	if !slices.Equal(cmds, commands(2)) || !slices.Equal(next, []int{1, 2, 3}) {
		t.Errorf("what was handed in became %v, %v", cmds, next)
	}
	clear(cmds)
	clear(next)
	if !bytes.Equal(w.Bytes(), want) {
		t.Errorf("the writer holds %x", w.Bytes())
	}
}

func TestNilWriterAndReader(t *testing.T) {
	PutCmd(nil, command(0))
	Write(nil, batch(commands(3)...))
	Write(nil, stop(1, 2))
	TakeCmd(nil)
	Read(nil)
	r := pack.NewReader([]byte{1})
	Read(r)
	TakeCmd(r)
	if Read(r); r.Err() != api.ErrShort {
		t.Errorf("the first error became %d", r.Err())
	}
}
