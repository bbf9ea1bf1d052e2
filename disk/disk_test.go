package disk

import (
	"bytes"
	"fmt"
	"math"
	"math/rand"
	"reflect"
	"slices"
	"strings"
	"testing"

	"synod/api"
)

func area1(name, safe, pending string) api.Area {
	return api.Area{Name: name, Data: []byte(safe + pending), Safe: len(safe)}
}

// tell is areas as a text: of each its name, its safe bytes and its pending ones.
func tell(areas []api.Area) string {
	var all []string
	for _, a := range areas {
		all = append(all, fmt.Sprintf("%s %s|%s", a.Name, a.Data[:a.Safe], a.Data[a.Safe:]))
	}
	return strings.Join(all, ", ")
}

func wantImage(t *testing.T, d *Disk, want string) {
	t.Helper()
	if got := tell(d.Image()); got != want {
		t.Errorf("the disk holds %q, want %q", got, want)
	}
}

func wantErr(t *testing.T, what string, got, want api.Errno) {
	t.Helper()
	if got != want {
		t.Errorf("%s = %d, want %d", what, got, want)
	}
}

// mounted is a disk that holds these areas.
func mounted(t *testing.T, room int, areas ...api.Area) *Disk {
	t.Helper()
	d, e := Mount(room, areas)
	if e != api.OK || d == nil {
		t.Fatalf("Mount(%d, %s) = %d", room, tell(areas), e)
	}
	return d
}

// many is n areas without bytes.
func many(n int) []api.Area {
	var all []api.Area
	for i := range n {
		all = append(all, api.Area{Name: fmt.Sprintf("area-%02d", i)})
	}
	return all
}

// call is a call about an area that answers an Errno.
type call struct {
	name string
	do   func(d *Disk, name string) api.Errno
}

// steps are the calls that are steps, each such that it can be carried out on any area that is there.
func steps() []call {
	return []call{
		{"Append", func(d *Disk, name string) api.Errno { return d.Append(name, []byte("x")) }},
		{"Append nothing", func(d *Disk, name string) api.Errno { return d.Append(name, nil) }},
		{"Sync", func(d *Disk, name string) api.Errno { return d.Sync(name) }},
		{"Cut", func(d *Disk, name string) api.Errno { return d.Cut(name, 0) }},
		{"Move", func(d *Disk, name string) api.Errno { return d.Move(name, "new") }},
		{"Move over", func(d *Disk, name string) api.Errno { return d.Move(name, "b") }},
		{"Move to itself", func(d *Disk, name string) api.Errno { return d.Move(name, name) }},
		{"Drop", func(d *Disk, name string) api.Errno { return d.Drop(name) }},
	}
}

// calls are the steps, and Read.
func calls() []call {
	read := func(d *Disk, name string) api.Errno {
		b, e := d.Read(name)
		if e != api.OK && len(b) > 0 {
			panic("bytes beside an error")
		}
		return e
	}
	return append(steps(), call{"Read", read})
}

// same tells whether two disks answer alike.
func same(a, b *Disk) bool {
	return tell(a.Image()) == tell(b.Image()) && slices.Equal(a.List(), b.List()) && a.Free() == b.Free() && a.Steps() == b.Steps() && a.Down() == b.Down()
}

// noNames are texts that are no names.
func noNames() []string {
	return []string{"", strings.Repeat("a", 25), strings.Repeat("a", 1000), "A", "Z", "a.b", "a_b", "a b", " ", "a/b", "`", "{", "/", ":", ",", "é", "日", "\x00", "a\x00", "\xff", "a\n", "aB", "Ba", strings.Repeat("a", 23) + "é"}
}

// P8.1

func TestRight(t *testing.T) {
	for _, name := range []string{"a", "z", "0", "9", "-", "--", "wal-000001", "snap", "az09-", strings.Repeat("a", 24), strings.Repeat("-", 23) + "z"} {
		if !Right(name) {
			t.Errorf("Right(%q) = false", name)
		}
	}
	for _, name := range noNames() {
		if Right(name) {
			t.Errorf("Right(%q) = true", name)
		}
	}
	for c := range 256 {
		want := strings.ContainsRune("abcdefghijklmnopqrstuvwxyz0123456789-", rune(c))
		for _, name := range []string{string([]byte{byte(c)}), string([]byte{'a', byte(c)}), string([]byte{byte(c), '0'})} {
			if Right(name) != want {
				t.Errorf("Right(%q) = %v", name, !want)
			}
		}
	}
}

func TestNew(t *testing.T) {
	for _, x := range []struct{ room, free int }{
		{0, 0}, {1, 1}, {24, 24}, {1 << 22, 1 << 22}, {1<<22 - 1, 1<<22 - 1}, {1<<22 + 1, 1 << 22}, {math.MaxInt, 1 << 22}, {-1, 0}, {math.MinInt, 0},
	} {
		d := New(x.room)
		if d == nil || d.Free() != x.free || d.Steps() != 0 || d.Down() || len(d.List()) != 0 || len(d.Image()) != 0 {
			t.Errorf("New(%d) isn't an empty disk with room for %d bytes", x.room, x.free)
		}
		m := mounted(t, x.room)
		if !same(d, m) {
			t.Errorf("Mount(%d, nil) isn't New(%d)", x.room, x.room)
		}
	}
}

func TestMount(t *testing.T) {
	full := strings.Repeat("x", 1<<22)
	for _, x := range []struct {
		name  string
		room  int
		areas []api.Area
		e     api.Errno
	}{
		{"one", 5, []api.Area{area1("a", "12", "345")}, api.OK},
		{"not in order", 5, []api.Area{area1("b", "1", ""), area1("-", "", "1"), area1("a", "", "")}, api.OK},
		{"as many as there may be", 0, many(64), api.OK}, {"one more", 0, many(65), api.ErrMany}, {"many more", 0, many(99), api.ErrMany},
		{"too many, and no names", 0, make([]api.Area, 65), api.ErrMany},
		{"no name", 5, []api.Area{{}}, api.ErrName}, {"no name behind one", 5, []api.Area{area1("a", "", ""), area1("a.", "", "")}, api.ErrName},
		{"twice", 5, []api.Area{area1("a", "", ""), area1("a", "", "")}, api.ErrArg}, {"twice, not next", 5, []api.Area{area1("a", "", ""), area1("b", "", ""), area1("a", "1", "")}, api.ErrArg},
		{"less than nothing safe", 5, []api.Area{{Name: "a", Data: []byte("1"), Safe: -1}}, api.ErrArg}, {"least", 5, []api.Area{{Name: "a", Safe: math.MinInt}}, api.ErrArg},
		{"more safe than there is", 5, []api.Area{{Name: "a", Data: []byte("1"), Safe: 2}}, api.ErrArg}, {"most", 5, []api.Area{{Name: "a", Safe: math.MaxInt}}, api.ErrArg},
		{"the first that is wrong: the name", 5, []api.Area{{Name: "A"}, {Name: "a", Safe: 1}}, api.ErrName},
		{"the first that is wrong: the number", 5, []api.Area{{Name: "a", Safe: 1}, {Name: "A"}}, api.ErrArg},
		{"name and number wrong", 5, []api.Area{{Name: "A", Safe: -1}}, api.ErrName},
		{"no name twice", 5, []api.Area{{Name: "A"}, {Name: "A"}}, api.ErrName},
		{"a full disk", 5, []api.Area{area1("a", "123", "x"), area1("b", "45", "")}, api.OK}, {"one byte more", 5, []api.Area{area1("a", "123", ""), area1("b", "456", "")}, api.ErrFull},
		{"more than room, and then no name", 0, []api.Area{area1("a", "1", ""), area1("B", "", "")}, api.ErrName},
		{"more than room, and then twice", 0, []api.Area{area1("a", "1", ""), area1("a", "", "")}, api.ErrArg},
		{"pending bytes beyond the room", 0, []api.Area{area1("a", "", "12345")}, api.OK},
		{"no room", 0, []api.Area{area1("a", "1", "")}, api.ErrFull}, {"below no room", -7, []api.Area{area1("a", "1", "")}, api.ErrFull}, {"nothing into no room", -7, []api.Area{area1("a", "", "1")}, api.OK},
		{"the most room", math.MaxInt, []api.Area{area1("a", full, "")}, api.OK}, {"more than the most room", math.MaxInt, []api.Area{area1("a", full, ""), area1("b", "1", "")}, api.ErrFull},
	} {
		d, e := Mount(x.room, x.areas)
		if e != x.e || (d != nil) != (e == api.OK) {
			t.Errorf("%s: Mount = %v, %d, want %d", x.name, d != nil, e, x.e)
		}
		if d == nil {
			continue
		}
		want := slices.SortedFunc(slices.Values(x.areas), func(a, b api.Area) int { return strings.Compare(a.Name, b.Name) })
		if tell(d.Image()) != tell(want) || d.Steps() != 0 || d.Down() {
			t.Errorf("%s: the disk doesn't hold what was mounted", x.name)
		}
	}
}

// P8.2

func TestFirstErrors(t *testing.T) {
	for _, c := range calls() {
		wantErr(t, c.name+" on a nil disk", c.do(nil, "A"), api.ErrArg)
		wantErr(t, c.name+" on a nil disk", c.do(nil, "a"), api.ErrArg)
		d := mounted(t, 9, area1("a", "1", "2"))
		for _, name := range noNames() {
			wantErr(t, c.name+" of no name", c.do(d, name), api.ErrName)
		}
		if !strings.HasPrefix(c.name, "Append") {
			wantErr(t, c.name+" of what isn't there", c.do(d, "c"), api.ErrNone)
			wantErr(t, c.name+" on an empty disk", c.do(New(9), "a"), api.ErrNone)
		}
		if !same(d, mounted(t, 9, area1("a", "1", "2"))) {
			t.Errorf("%s has changed something beside an error", c.name)
		}
		d.Fuse(1)
		wantErr(t, "Sync with a fuse", d.Sync("a"), api.ErrDown)
		for _, name := range []string{"a", "c", "A"} {
			wantErr(t, c.name+" without power", c.do(d, name), api.ErrDown)
		}
		wantImage(t, d, "a 1|2")
	}
}

func TestOrderOfErrors(t *testing.T) {
	d := mounted(t, 9, area1("a", "1", "2"))
	wantErr(t, "Move of no name to none", d.Move("A", "B"), api.ErrName)
	wantErr(t, "Move of what isn't there to no name", d.Move("c", "B"), api.ErrNone)
	wantErr(t, "Move to no name", d.Move("a", "B"), api.ErrName)
	wantErr(t, "Cut below 0 of what isn't there", d.Cut("c", -1), api.ErrNone)
	wantErr(t, "Cut below 0 of no name", d.Cut("C", -1), api.ErrName)
	full := mounted(t, 9, many(64)...)
	tooMuch := make([]byte, api.MaxRoom+1)
	wantErr(t, "Append of too much to one too many", full.Append("z", tooMuch), api.ErrMany)
	wantErr(t, "Append of too much to no name", full.Append("Z", tooMuch), api.ErrName)
	wantErr(t, "Append of too much to one that is there", full.Append("area-63", tooMuch), api.ErrBig)
	// A call that answers an error is no step: it leaves the fuse as it is.
	d.Fuse(1)
	wantErr(t, "Move to no name with a fuse", d.Move("a", "B"), api.ErrName)
	wantErr(t, "Cut above the end with a fuse", d.Cut("a", 3), api.ErrArg)
	wantErr(t, "Append of too much with a fuse", d.Append("a", tooMuch), api.ErrBig)
	wantErr(t, "Drop of what isn't there with a fuse", d.Drop("c"), api.ErrNone)
	if d.Down() || d.Steps() != 0 {
		t.Error("an error has been taken for a step")
	}
	wantErr(t, "Drop with a fuse", d.Drop("a"), api.ErrDown)
	wantImage(t, d, "a 1|2")
}

func TestAppend(t *testing.T) {
	d := New(2)
	for i, part := range []string{"", "12", "", "345"} {
		wantErr(t, "Append", d.Append("a", []byte(part)), api.OK)
		if d.Steps() != i+1 || d.Free() != 2 {
			t.Errorf("behind %d Appends: %d steps, %d bytes free", i+1, d.Steps(), d.Free())
		}
	}
	wantImage(t, d, "a |12345")
	wantErr(t, "Append", d.Append("b", nil), api.OK)
	wantImage(t, d, "a |12345, b |")
	d = mounted(t, 2, area1("a", "12", "3"))
	wantErr(t, "Append", d.Append("a", []byte("45")), api.OK)
	wantImage(t, d, "a 12|345")
}

func TestAppendMany(t *testing.T) {
	d := New(9)
	for i, a := range many(64) {
		wantErr(t, "Append", d.Append(a.Name, []byte{'0' + byte(i)}), api.OK)
	}
	wantErr(t, "Append of one more", d.Append("z", nil), api.ErrMany)
	wantErr(t, "Append to the last", d.Append("area-63", []byte("x")), api.OK)
	if len(d.List()) != 64 || d.Steps() != 65 {
		t.Errorf("%d areas, %d steps", len(d.List()), d.Steps())
	}
	wantErr(t, "Move", d.Move("area-00", "z"), api.OK)
	wantErr(t, "Append of the name that is free", d.Append("area-00", nil), api.ErrMany)
	wantErr(t, "Drop", d.Drop("area-01"), api.OK)
	wantErr(t, "Append in its place", d.Append("area-00", nil), api.OK)
	wantErr(t, "Append of one more", d.Append("area-01", nil), api.ErrMany)
	wantErr(t, "Move over", d.Move("area-02", "area-03"), api.OK)
	wantErr(t, "Append in its place", d.Append("area-01", nil), api.OK)
}

func TestAppendBig(t *testing.T) {
	d := New(0)
	wantErr(t, "Append of one byte more than there may be", d.Append("a", make([]byte, 1<<22+1)), api.ErrBig)
	if len(d.List()) != 0 || d.Steps() != 0 {
		t.Error("an Append that is too big has made the area")
	}
	wantErr(t, "Append of as much as there may be", d.Append("a", make([]byte, 1<<22)), api.OK)
	wantErr(t, "Append of nothing behind it", d.Append("a", nil), api.OK)
	wantErr(t, "Append of a byte behind it", d.Append("a", []byte{1}), api.ErrBig)
	wantErr(t, "Append to another", d.Append("b", make([]byte, 1<<22-1)), api.OK)
	wantErr(t, "Append of two bytes", d.Append("b", make([]byte, 2)), api.ErrBig)
	wantErr(t, "Append of the last byte", d.Append("b", make([]byte, 1)), api.OK)
	if b, e := d.Read("b"); len(b) != 1<<22 || e != api.OK || d.Steps() != 4 {
		t.Errorf("%d bytes, %d; %d steps", len(b), e, d.Steps())
	}
	wantErr(t, "Cut", d.Cut("b", 5), api.OK)
	wantErr(t, "Append behind a Cut", d.Append("b", make([]byte, 9)), api.OK)
}

func TestSync(t *testing.T) {
	d := mounted(t, 6, area1("a", "1", "23"), area1("b", "45", "6"), area1("c", "", "7890"))
	wantErr(t, "Sync beyond the room", d.Sync("c"), api.ErrFull)
	if d.Steps() != 0 || d.Free() != 3 {
		t.Error("a Sync that finds no room is no step")
	}
	wantImage(t, d, "a 1|23, b 45|6, c |7890")
	wantErr(t, "Sync", d.Sync("a"), api.OK)
	wantImage(t, d, "a 123|, b 45|6, c |7890")
	if d.Steps() != 1 || d.Free() != 1 {
		t.Errorf("%d steps, %d free", d.Steps(), d.Free())
	}
	wantErr(t, "Sync into the last byte", d.Sync("b"), api.OK)
	wantErr(t, "Sync of what is safe", d.Sync("a"), api.OK)
	wantErr(t, "Sync into no room", d.Sync("c"), api.ErrFull)
	wantErr(t, "Append", d.Append("d", nil), api.OK)
	wantErr(t, "Sync of nothing into no room", d.Sync("d"), api.OK)
	if d.Steps() != 5 || d.Free() != 0 {
		t.Errorf("%d steps, %d free", d.Steps(), d.Free())
	}
	wantErr(t, "Drop", d.Drop("b"), api.OK)
	wantErr(t, "Sync still", d.Sync("c"), api.ErrFull)
	wantErr(t, "Cut", d.Cut("c", 3), api.OK)
	wantErr(t, "Sync of what is left", d.Sync("c"), api.OK)
	wantImage(t, d, "a 123|, c 789|, d |")
}

func TestSyncBeyondRoomWithFuse(t *testing.T) {
	d := mounted(t, 1, area1("a", "1", "2"))
	d.Fuse(1)
	wantErr(t, "Sync beyond the room", d.Sync("a"), api.ErrFull)
	if d.Down() {
		t.Error("a Sync that finds no room has been taken for a step")
	}
}

func TestCut(t *testing.T) {
	for _, x := range []struct {
		n    int
		e    api.Errno
		want string
	}{
		{-1, api.ErrArg, "a 12|34"}, {math.MinInt, api.ErrArg, "a 12|34"}, {5, api.ErrArg, "a 12|34"}, {math.MaxInt, api.ErrArg, "a 12|34"},
		{4, api.OK, "a 12|34"}, {3, api.OK, "a 12|3"}, {2, api.OK, "a 12|"}, {1, api.OK, "a 1|"}, {0, api.OK, "a |"},
	} {
		d := mounted(t, 2, area1("a", "12", "34"))
		wantErr(t, fmt.Sprint("Cut ", x.n), d.Cut("a", x.n), x.e)
		wantImage(t, d, x.want)
		if (d.Steps() == 1) != (x.e == api.OK) {
			t.Errorf("Cut %d: %d steps", x.n, d.Steps())
		}
		before := d.Image()
		wantErr(t, "Append behind a Cut", d.Append("a", []byte("x")), api.OK)
		if tell(before) != x.want {
			t.Errorf("Cut %d: an Append has changed an older answer", x.n)
		}
		wantImage(t, d, x.want+"x")
	}
	d := mounted(t, 2, area1("a", "", ""))
	wantErr(t, "Cut of nothing", d.Cut("a", 0), api.OK)
	wantErr(t, "Cut above the end", d.Cut("a", 1), api.ErrArg)
}

func TestMove(t *testing.T) {
	for _, x := range []struct{ from, to, want string }{
		{"a", "c", "b 45|6, c 12|3"}, {"a", "b", "b 12|3"}, {"b", "a", "a 45|6"}, {"a", "a", "a 12|3, b 45|6"}, {"b", "b", "a 12|3, b 45|6"}, {"b", "-", "- 45|6, a 12|3"},
	} {
		d := mounted(t, 4, area1("a", "12", "3"), area1("b", "45", "6"))
		wantErr(t, "Move "+x.from+" "+x.to, d.Move(x.from, x.to), api.OK)
		wantImage(t, d, x.want)
		if d.Steps() != 1 {
			t.Errorf("Move %s %s: %d steps", x.from, x.to, d.Steps())
		}
		if x.from != x.to {
			wantErr(t, "Sync of what is moved away", d.Sync(x.from), api.ErrNone)
		}
	}
	for _, name := range noNames() {
		d := mounted(t, 4, area1("a", "12", "3"))
		wantErr(t, "Move to no name", d.Move("a", name), api.ErrName)
		wantImage(t, d, "a 12|3")
	}
	full := mounted(t, 2, area1("a", "12", ""), area1("b", "", "34"))
	wantErr(t, "Move over what fills the disk", full.Move("b", "a"), api.OK)
	if full.Free() != 2 {
		t.Errorf("%d bytes free", full.Free())
	}
}

func TestDrop(t *testing.T) {
	d := mounted(t, 4, area1("a", "12", "3"), area1("b", "4", ""))
	wantErr(t, "Drop", d.Drop("a"), api.OK)
	wantErr(t, "Drop again", d.Drop("a"), api.ErrNone)
	wantImage(t, d, "b 4|")
	if d.Free() != 3 || d.Steps() != 1 {
		t.Errorf("%d bytes free, %d steps", d.Free(), d.Steps())
	}
	wantErr(t, "Append", d.Append("a", []byte("5")), api.OK)
	wantImage(t, d, "a |5, b 4|")
}

func TestRead(t *testing.T) {
	d := mounted(t, 4, area1("a", "12", "3"), area1("b", "", ""))
	for _, x := range []struct {
		name, want string
		e          api.Errno
	}{{"a", "123", api.OK}, {"b", "", api.OK}, {"c", "", api.ErrNone}, {"A", "", api.ErrName}} {
		if b, e := d.Read(x.name); string(b) != x.want || e != x.e {
			t.Errorf("Read %s = %q, %d", x.name, b, e)
		}
	}
	if d.Steps() != 0 {
		t.Error("Read is no step")
	}
	d.Fuse(1)
	if b, e := d.Read("a"); string(b) != "123" || e != api.OK || d.Down() {
		t.Errorf("Read with a fuse = %q, %d", b, e)
	}
	wantErr(t, "Sync", d.Sync("a"), api.ErrDown)
	if b, e := d.Read("a"); b != nil || e != api.ErrDown {
		t.Errorf("Read without power = %q, %d", b, e)
	}
}

// P8.3

func TestNilDisk(t *testing.T) {
	var d *Disk
	d.Fuse(1)
	d.Crash([]int{1})
	if len(d.List()) != 0 || d.Free() != 0 || d.Steps() != 0 || d.Down() || len(d.Image()) != 0 {
		t.Error("a nil disk answers something")
	}
	if b, e := d.Read("a"); b != nil || e != api.ErrArg {
		t.Errorf("Read = %q, %d", b, e)
	}
}

func TestZeroDisk(t *testing.T) {
	for _, c := range calls() {
		var d Disk
		c.do(&d, "a")
		d.Crash([]int{1})
		d.Fuse(1)
		c.do(&d, "a")
		if d.Free() != 0 {
			t.Errorf("%s: %d bytes free without room", c.name, d.Free())
		}
	}
	var d Disk
	wantErr(t, "Append", d.Append("a", []byte("1")), api.OK)
	wantErr(t, "Sync", d.Sync("a"), api.ErrFull)
	wantImage(t, &d, "a |1")
}

func TestListIsSorted(t *testing.T) {
	sorted := []string{"-", "--", "-a", "0", "00", "09", "1", "10", "2", "9", "a", "a-", "a0", "aa", "ab", "b", "z", "zz"}
	shuffled := rand.New(rand.NewSource(1)).Perm(len(sorted))
	d := New(0)
	for _, i := range shuffled {
		d.Append(sorted[i], []byte(sorted[i]))
	}
	for range 20 {
		if !slices.Equal(d.List(), sorted) {
			t.Fatalf("List = %q", d.List())
		}
		for i, a := range d.Image() {
			if a.Name != sorted[i] || string(a.Data) != sorted[i] || a.Safe != 0 {
				t.Fatalf("Image[%d] = %+v", i, a)
			}
		}
	}
}

func TestWithoutPower(t *testing.T) {
	d := mounted(t, 9, area1("b", "12", "3"), area1("a", "4", ""))
	d.Append("c", nil)
	d.Fuse(1)
	wantErr(t, "Drop", d.Drop("a"), api.ErrDown)
	if !d.Down() || len(d.List()) != 0 || d.Free() != 6 || d.Steps() != 1 {
		t.Errorf("without power: %v, %q, %d free, %d steps", d.Down(), d.List(), d.Free(), d.Steps())
	}
	wantImage(t, d, "a 4|, b 12|3, c |")
	d.Fuse(0)
	d.Fuse(7)
	if !d.Down() {
		t.Error("Fuse has brought the power back")
	}
	wantErr(t, "Sync", d.Sync("b"), api.ErrDown)
	d.Crash(nil)
	if d.Down() || !slices.Equal(d.List(), []string{"a", "b", "c"}) || d.Free() != 6 || d.Steps() != 1 {
		t.Errorf("behind a Crash: %v, %q, %d free, %d steps", d.Down(), d.List(), d.Free(), d.Steps())
	}
}

// Steps and fuses

func TestStepsAreCounted(t *testing.T) {
	for _, c := range steps() {
		d := mounted(t, 9, area1("a", "1", "2"), area1("b", "", ""))
		wantErr(t, c.name, c.do(d, "a"), api.OK)
		if d.Steps() != 1 || d.Down() {
			t.Errorf("%s: %d steps", c.name, d.Steps())
		}
	}
}

func TestFuseInEachStep(t *testing.T) {
	for _, c := range steps() {
		d := mounted(t, 9, area1("a", "1", "2"), area1("b", "3", "4"))
		d.Fuse(1)
		wantErr(t, c.name, c.do(d, "a"), api.ErrDown)
		if !d.Down() || d.Steps() != 0 || len(d.List()) != 0 {
			t.Errorf("%s: down %v, %d steps", c.name, d.Down(), d.Steps())
		}
		want := "a 1|2, b 3|4"
		if c.name == "Append" {
			want = "a 1|2x, b 3|4"
		}
		wantImage(t, d, want)
		wantErr(t, c.name+" again", c.do(d, "a"), api.ErrDown)
		wantImage(t, d, want)
	}
	d := New(9)
	d.Fuse(1)
	wantErr(t, "Append of a new area", d.Append("a", []byte("12")), api.ErrDown)
	wantImage(t, d, "a |12")
	d.Crash([]int{1})
	wantImage(t, d, "a 1|")
	d.Fuse(1)
	wantErr(t, "Append of another one, of nothing", d.Append("b", nil), api.ErrDown)
	wantImage(t, d, "a 1|, b |")
}

func TestFuseCounts(t *testing.T) {
	for n := -2; n <= 12; n++ {
		d := New(99)
		d.Fuse(n)
		done := 0
		for range 10 {
			if d.Append("a", []byte("x")) != api.OK {
				break
			}
			done++
			d.Read("a")
			d.Append("A", nil)
			d.Cut("a", -1)
			d.List()
		}
		want := 10
		if 1 <= n && n <= 10 {
			want = n - 1
		}
		if done != want || d.Steps() != want || d.Down() != (want < 10) {
			t.Errorf("Fuse(%d): %d steps done, %d counted, down %v", n, done, d.Steps(), d.Down())
		}
	}
}

func TestFuseAnew(t *testing.T) {
	for _, off := range []int{0, -1, math.MinInt} {
		d := New(9)
		d.Fuse(1)
		d.Fuse(off)
		wantErr(t, "Append", d.Append("a", nil), api.OK)
		wantErr(t, "Append", d.Append("a", nil), api.OK)
	}
	d := New(9)
	d.Fuse(2)
	wantErr(t, "Append", d.Append("a", nil), api.OK)
	d.Fuse(2)
	wantErr(t, "Append", d.Append("a", nil), api.OK)
	wantErr(t, "Append", d.Append("a", nil), api.ErrDown)
	d = New(9)
	d.Fuse(math.MaxInt)
	wantErr(t, "Append", d.Append("a", nil), api.OK)
	d.Fuse(2)
	d.Crash(nil)
	for range 3 {
		wantErr(t, "Append behind a Crash", d.Append("a", nil), api.OK)
	}
}

// P8.4

func TestCrash(t *testing.T) {
	for _, x := range []struct {
		room int
		keep []int
		want string
	}{
		{99, nil, "a 1|, b |, c 67|"}, {99, []int{}, "a 1|, b |, c 67|"}, {99, []int{0, 0, 0}, "a 1|, b |, c 67|"}, {99, []int{-1, math.MinInt, -9}, "a 1|, b |, c 67|"},
		{99, []int{1}, "a 12|, b |, c 67|"}, {99, []int{0, 1}, "a 1|, b 4|, c 67|"}, {99, []int{0, 0, 1}, "a 1|, b |, c 678|"},
		{99, []int{2, 2, 1}, "a 123|, b 45|, c 678|"}, {99, []int{3, 3, 2}, "a 123|, b 45|, c 678|"}, {99, []int{math.MaxInt, math.MaxInt, math.MaxInt}, "a 123|, b 45|, c 678|"},
		{99, []int{1, 1, 1, 1, 1}, "a 12|, b 4|, c 678|"}, {99, []int{-1, 2}, "a 1|, b 45|, c 67|"},
		{3, []int{9, 9, 9}, "a 1|, b |, c 67|"}, {4, []int{9, 9, 9}, "a 12|, b |, c 67|"}, {5, []int{9, 9, 9}, "a 123|, b |, c 67|"}, {6, []int{9, 9, 9}, "a 123|, b 4|, c 67|"},
		{7, []int{9, 9, 9}, "a 123|, b 45|, c 67|"}, {8, []int{9, 9, 9}, "a 123|, b 45|, c 678|"}, {5, []int{1, 9, 9}, "a 12|, b 4|, c 67|"}, {5, []int{0, 1, 9}, "a 1|, b 4|, c 678|"},
		{4, []int{-5, -5, 9}, "a 1|, b |, c 678|"},
	} {
		d := mounted(t, x.room, area1("c", "67", "8"), area1("a", "1", "23"), area1("b", "", "45"))
		d.Append("a", nil)
		d.Crash(x.keep)
		wantImage(t, d, x.want)
		if d.Down() || d.Steps() != 1 {
			t.Errorf("Crash(%v): down %v, %d steps", x.keep, d.Down(), d.Steps())
		}
		before := tell(d.Image())
		d.Crash([]int{9, 9, 9})
		wantImage(t, d, before)
		d.Append("a", []byte("x"))
		d.Append("c", []byte("y"))
		wantImage(t, d, strings.Replace(before, "|,", "|x,", 1)+"y")
	}
}

func TestCrashOfNothing(t *testing.T) {
	d := New(3)
	d.Crash([]int{1, 2, 3})
	if len(d.List()) != 0 || d.Free() != 3 || d.Down() {
		t.Error("a Crash has made something on an empty disk")
	}
	d.Append("a", nil)
	d.Crash(nil)
	wantImage(t, d, "a |")
}

func TestCrashTakesOffTheFuse(t *testing.T) {
	for n := 1; n <= 3; n++ {
		d := mounted(t, 9, area1("a", "", ""))
		d.Fuse(n)
		d.Crash(nil)
		for range 4 {
			wantErr(t, "Append", d.Append("a", nil), api.OK)
		}
	}
	d := mounted(t, 9, area1("a", "", "12"))
	d.Fuse(1)
	wantErr(t, "Sync", d.Sync("a"), api.ErrDown)
	d.Fuse(1)
	d.Crash([]int{1})
	wantErr(t, "Append", d.Append("a", []byte("3")), api.OK)
	wantErr(t, "Sync", d.Sync("a"), api.OK)
	wantImage(t, d, "a 13|")
}

// P8.5

func TestSyncedOutlivesEveryCrash(t *testing.T) {
	for first := range 9 {
		for _, keep := range [][]int{nil, {0, 0, 0}, {1, 1, 1}, {99, 99, 99}, {-1, 5}} {
			d := New(40)
			d.Append("a", []byte("kept"))
			d.Append("b", []byte("also"))
			d.Sync("a")
			d.Sync("b")
			d.Fuse(first)
			d.Append("b", []byte("more"))
			d.Append("c", []byte("new"))
			d.Move("c", "d")
			d.Cut("d", 2)
			d.Sync("d")
			d.Append("a", make([]byte, 99))
			d.Sync("a")
			d.Drop("d")
			d.Crash(keep)
			a, _ := d.Read("a")
			b, _ := d.Read("b")
			if !bytes.HasPrefix(a, []byte("kept")) || !bytes.HasPrefix(b, []byte("also")) {
				t.Errorf("Fuse(%d), Crash(%v): %q, %q are left", first, keep, a, b)
			}
		}
	}
}

// Memory

func TestMemoryIsNotShared(t *testing.T) {
	room := []byte("123456")
	areas := []api.Area{{Name: "a", Data: room[:3], Safe: 2}}
	d := mounted(t, 9, areas...)
	part := []byte("abcdef")
	d.Append("a", part[:2])
	d.Append("b", part[:2])
	d.Append("b", part[:1])
	keep := []int{1, 1}
	copy(room, "******")
	if string(room[3:]) != "***" || string(part) != "abcdef" {
		t.Errorf("what was handed in is changed: %q", part)
	}
	copy(part, "******")
	areas[0] = api.Area{}
	wantImage(t, d, "a 12|3ab, b |aba")
	r, _ := d.Read("a")
	im := d.Image()
	l := d.List()
	clear(r[:cap(r)])
	for i := range im {
		clear(im[i].Data[:cap(im[i].Data)])
		im[i].Safe = 0
	}
	clear(l[:cap(l)])
	wantImage(t, d, "a 12|3ab, b |aba")
	r, _ = d.Read("a")
	d.Crash(keep)
	d.Append("a", []byte("!!!!"))
	if string(r) != "123ab" || !slices.Equal(keep, []int{1, 1}) {
		t.Errorf("an answer or what was handed in is changed: %q, %v", r, keep)
	}
	wantImage(t, d, "a 123|!!!!, b a|")
}

func TestAppendToAnAnswerChangesNothing(t *testing.T) {
	d := mounted(t, 9, area1("a", "12", "34"), area1("b", "56", "78"))
	d.Cut("a", 1)
	r, _ := d.Read("a")
	_ = append(r, "zzz"...)
	im := d.Image()
	_ = append(im[0].Data, "zzz"...)
	d.Append("a", []byte("9"))
	wantImage(t, d, "a 1|9, b 56|78")
	if string(im[1].Data) != "5678" || string(im[0].Data) != "1" || string(r) != "1" {
		t.Errorf("answers share memory: %v, %q", im, r)
	}
}

func TestDisksNeverMeet(t *testing.T) {
	a := mounted(t, 9, area1("a", "12", "34"))
	b := mounted(t, 9, a.Image()...)
	c := New(9)
	a.Append("a", []byte("5"))
	a.Append("n", nil)
	a.Sync("a")
	a.Fuse(1)
	a.Drop("a")
	wantImage(t, a, "a 12345|, n |")
	wantImage(t, b, "a 12|34")
	if b.Down() || b.Steps() != 0 || c.Down() || c.Steps() != 0 || len(c.List()) != 0 {
		t.Error("two disks meet")
	}
}

// Against a plain model: a list of areas, each with two texts

type plainArea struct{ name, safe, pending string }

type plain struct {
	room, count, fuse int
	off               bool
	areas             []plainArea
}

func (p *plain) free() int {
	n := p.room
	for _, a := range p.areas {
		n -= len(a.safe)
	}
	return n
}

func (p *plain) at(name string) int {
	return slices.IndexFunc(p.areas, func(a plainArea) bool { return a.name == name })
}

// fails tells that the power fails in this step.
func (p *plain) fails() bool {
	if p.fuse == 1 {
		p.off, p.fuse = true, 0
		return true
	}
	p.fuse = max(p.fuse-1, 0)
	p.count++
	return false
}

func (p *plain) remove(i int) { p.areas = append(p.areas[:i:i], p.areas[i+1:]...) }

func (p *plain) apply(kind int, name, other, part string, n int) api.Errno {
	i := p.at(name)
	switch {
	case p.off:
		return api.ErrDown
	case !plainName(name):
		return api.ErrName
	case kind == 0 && i < 0 && len(p.areas) == 64:
		return api.ErrMany
	case kind != 0 && i < 0:
		return api.ErrNone
	case kind == 1 && len(p.areas[i].pending) > p.free():
		return api.ErrFull
	case kind == 2 && (n < 0 || n > len(p.areas[i].safe+p.areas[i].pending)):
		return api.ErrArg
	case kind == 3 && !plainName(other):
		return api.ErrName
	}
	failed := p.fails()
	if failed && kind != 0 {
		return api.ErrDown
	}
	switch kind {
	case 0:
		if i < 0 {
			i = len(p.areas)
			p.areas = append(p.areas, plainArea{name: name})
		}
		p.areas[i].pending += part
		slices.SortFunc(p.areas, func(a, b plainArea) int { return strings.Compare(a.name, b.name) })
	case 1:
		p.areas[i] = plainArea{name, p.areas[i].safe + p.areas[i].pending, ""}
	case 2:
		a := &p.areas[i]
		all := (a.safe + a.pending)[:n]
		a.safe = a.safe[:min(n, len(a.safe))]
		a.pending = all[len(a.safe):]
	case 3:
		a := p.areas[i]
		p.remove(i)
		if j := p.at(other); j >= 0 {
			p.remove(j)
		}
		a.name = other
		p.areas = append(p.areas, a)
		slices.SortFunc(p.areas, func(a, b plainArea) int { return strings.Compare(a.name, b.name) })
	case 4:
		p.remove(i)
	}
	if failed {
		return api.ErrDown
	}
	return api.OK
}

func (p *plain) crash(keep []int) {
	for i := range p.areas {
		a := &p.areas[i]
		for k := 0; i < len(keep) && k < keep[i] && a.pending != "" && p.free() > 0; k++ {
			a.safe, a.pending = a.safe+a.pending[:1], a.pending[1:]
		}
		a.pending = ""
	}
	p.off, p.fuse = false, 0
}

func (p *plain) tell() string {
	var all []string
	for _, a := range p.areas {
		all = append(all, fmt.Sprintf("%s %s|%s", a.name, a.safe, a.pending))
	}
	return strings.Join(all, ", ")
}

func plainName(name string) bool { return name != "" && name != "A" }

// against drives a disk and the model by the same bytes, and compares what they answer.
func against(t *testing.T, drive []byte) {
	take := func() int {
		if len(drive) == 0 {
			return 0
		}
		b := drive[0]
		drive = drive[1:]
		return int(b)
	}
	names := []string{"a", "b", "c", "d", "e-1", "", "A"}
	name := func() string {
		n := take() % 80
		if n >= 70 {
			return fmt.Sprint("x", take()%66)
		}
		return names[n%7]
	}
	room := take() % 40
	d, p := New(room), &plain{room: room}
	for step := 0; len(drive) > 0; step++ {
		kind := take() % 9
		at, other, n := name(), name(), take()%12-1
		part := fmt.Sprintf("%02d", step%100)[:take()%3]
		var got, want api.Errno
		switch kind {
		case 0, 5:
			got, want = d.Append(at, []byte(part)), p.apply(0, at, other, part, n)
		case 1, 6:
			got, want = d.Sync(at), p.apply(1, at, other, part, n)
		case 2:
			got, want = d.Cut(at, n), p.apply(2, at, other, part, n)
		case 3:
			got, want = d.Move(at, other), p.apply(3, at, other, part, n)
		case 4:
			got, want = d.Drop(at), p.apply(4, at, other, part, n)
		case 7:
			d.Fuse(n)
			p.fuse = max(n, 0)
		case 8:
			keep := []int{n, take() % 5, take()%5 - 1, take() % 9}[:take()%5]
			d.Crash(keep)
			p.crash(keep)
		}
		if got != want || tell(d.Image()) != p.tell() || d.Free() != p.free() || d.Steps() != p.count || d.Down() != p.off {
			t.Fatalf("step %d, kind %d, %q, %q, %d: %d, want %d; %s, want %s; %d free, %d steps, down %v", step, kind, at, other, n, got, want, tell(d.Image()), p.tell(), d.Free(), d.Steps(), d.Down())
		}
		if d.Free() < 0 || len(d.List()) > 64 {
			t.Fatalf("step %d: %d bytes free, %d areas", step, d.Free(), len(d.List()))
		}
	}
}

func TestAgainstModel(t *testing.T) {
	for seed := range 400 {
		r := rand.New(rand.NewSource(int64(seed)))
		drive := make([]byte, 600)
		r.Read(drive)
		against(t, drive)
	}
}

func FuzzAgainstModel(f *testing.F) {
	f.Add([]byte{9, 0, 0, 0, 0, 2, 1, 0, 0, 0, 0, 7, 0, 0, 2, 0})
	f.Fuzz(func(t *testing.T, drive []byte) { against(t, drive[:min(len(drive), 2000)]) })
}

// The same calls answer the same, however a map is gone through.
func TestSameAgain(t *testing.T) {
	run := func() []any {
		d := New(30)
		for i := range 40 {
			d.Append(fmt.Sprint("a", i%20), []byte{byte('a' + i)})
		}
		d.Crash([]int{2, 2, 0, 1, 2, 2, 2, 2, 2, 2, 2, 2, 2, 2, 2, 2, 2, 2, 2, 2})
		return []any{d.Image(), d.List(), d.Free(), d.Steps()}
	}
	first := run()
	for range 20 {
		if !reflect.DeepEqual(run(), first) {
			t.Fatal("the same calls answer otherwise")
		}
	}
}

// The chapter's examples

func TestExamples(t *testing.T) {
	d := New(4)
	wantErr(t, "Append a", d.Append("a", []byte{1, 2, 3}), api.OK)
	wantErr(t, "Sync a", d.Sync("a"), api.OK)
	wantErr(t, "Append a", d.Append("a", []byte{4, 5}), api.OK)
	wantErr(t, "Sync a", d.Sync("a"), api.ErrFull)
	d.Crash([]int{9})
	if im := d.Image(); !reflect.DeepEqual(im, []api.Area{{Name: "a", Data: []byte{1, 2, 3, 4}, Safe: 4}}) {
		t.Errorf("example 1: %+v", im)
	}
	d = New(4)
	d.Fuse(2)
	wantErr(t, "Append b", d.Append("b", []byte{1}), api.OK)
	wantErr(t, "Move b c", d.Move("b", "c"), api.ErrDown)
	if len(d.List()) != 0 {
		t.Errorf("example 2: List = %q", d.List())
	}
	d.Crash(nil)
	if b, e := d.Read("b"); len(b) != 0 || e != api.OK || !slices.Equal(d.List(), []string{"b"}) {
		t.Errorf("example 2: %v, %d, %q", b, e, d.List())
	}
}
