package snap

import (
	"bytes"
	"encoding/binary"
	"fmt"
	"hash/fnv"
	"math"
	"math/rand"
	"slices"
	"strings"
	"testing"

	"synod/api"
	"synod/disk"
)

// sum is a checksum, worked out on its own.
func sum(b []byte) uint64 {
	h := fnv.New64a()
	h.Write(b)
	return h.Sum64()
}

// nums is numbers as layer 1 writes them.
func nums(us ...uint64) []byte {
	var all []byte
	for _, u := range us {
		b := bytes.TrimLeft(binary.BigEndian.AppendUint64(nil, u), "\x00")
		all = append(append(all, byte(len(b))), b...)
	}
	return all
}

// sealed is bytes with their sum behind them.
func sealed(b []byte) []byte {
	return binary.BigEndian.AppendUint64(bytes.Clone(b), sum(b))
}

// now is the area of a manifest.
func now(turn, slot uint64, image string) api.Area {
	return safe("ck-now", sealed(nums(turn, slot, sum([]byte(image)))))
}

// safe is an area, all of it safe.
func safe(name string, data []byte) api.Area {
	return api.Area{Name: name, Data: data, Safe: len(data)}
}

func mounted(t *testing.T, room int, areas ...api.Area) *disk.Disk {
	t.Helper()
	d, e := disk.Mount(room, areas)
	if e != api.OK {
		t.Fatalf("Mount = %d", e)
	}
	return d
}

// tellDisk is the areas as a text: of each its name, its bytes (not a manifest's), and how many of them are not safe.
func tellDisk(d *disk.Disk) string {
	var all []string
	for _, a := range d.Image() {
		data := string(a.Data)
		if a.Name == "ck-now" || a.Name == "ck-tmp" {
			data = "*"
		}
		all = append(all, fmt.Sprintf("%s %s %d", a.Name, data, len(a.Data)-a.Safe))
	}
	return strings.Join(all, ", ")
}

func wantDisk(t *testing.T, d *disk.Disk, want string) {
	t.Helper()
	if got := tellDisk(d); got != want {
		t.Errorf("the disk holds %q, want %q", got, want)
	}
}

func wantErr(t *testing.T, what string, got, want api.Errno) {
	t.Helper()
	if got != want {
		t.Errorf("%s = %d, want %d", what, got, want)
	}
}

func wantLoad(t *testing.T, d *disk.Disk, slot int, image string) {
	t.Helper()
	if gotSlot, got, ok, e := Load(d); gotSlot != slot || string(got) != image || !ok || e != api.OK {
		t.Errorf("Load = %d, %q, %v, %d, want %d, %q", gotSlot, got, ok, e, slot, image)
	}
}

// wantNoLoad asks that a Load finds nothing, with that error.
func wantNoLoad(t *testing.T, d *disk.Disk, want api.Errno) {
	t.Helper()
	if slot, image, ok, e := Load(d); slot != 0 || len(image) != 0 || ok || e != want {
		t.Errorf("Load = %d, %q, %v, %d, want nothing and %d", slot, image, ok, e, want)
	}
}

// off is a disk with these areas whose power is off.
func off(t *testing.T, areas ...api.Area) *disk.Disk {
	t.Helper()
	d := mounted(t, 1000, append(areas, safe("x", nil))...)
	d.Fuse(1)
	d.Drop("x")
	return d
}

// What is no manifest.

func noManifests() map[string][]byte {
	whole := nums(3, 5, sum([]byte("im")))
	turned := sealed(whole)
	turned[1] ^= 1
	return map[string][]byte{
		"nothing":                  nil,
		"one byte":                 {1},
		"a seal of nothing":        sealed(nil),
		"not sealed":               whole,
		"a byte is lacking":        sealed(whole)[:len(whole)+7],
		"a byte too many":          append(sealed(whole), 0),
		"a turned byte":            turned,
		"two numbers":              sealed(nums(3, 5)),
		"four numbers":             sealed(nums(3, 5, sum([]byte("im")), 1)),
		"turn 0":                   sealed(nums(0, 5, sum([]byte("im")))),
		"too great a turn":         sealed(nums(api.MaxSlot+1, 5, sum([]byte("im")))),
		"a turn beyond all":        sealed(nums(math.MaxUint64, 5, sum([]byte("im")))),
		"too great a slot":         sealed(nums(3, api.MaxSlot+1, sum([]byte("im")))),
		"a slot beyond all":        sealed(nums(3, math.MaxUint64, sum([]byte("im")))),
		"a number in another form": sealed(append([]byte{2, 0, 3}, nums(5, sum([]byte("im")))...)),
	}
}

func TestNoManifest(t *testing.T) {
	for name, b := range noManifests() {
		t.Run(name, func(t *testing.T) {
			d := mounted(t, 1000, safe("ck-b", []byte("im")), safe("ck-now", b), safe("ck-tmp", nil))
			wantNoLoad(t, d, api.ErrImage)
			wantErr(t, "Save", Save(d, 1, nil), api.ErrImage)
			wantErr(t, "Clean", Clean(d), api.ErrImage)
			wantDisk(t, d, "ck-b im 0, ck-now * 0, ck-tmp * 0")
			if d.Steps() != 0 {
				t.Errorf("%d steps", d.Steps())
			}
		})
	}
}

// P10.1: Save.

func TestSave(t *testing.T) {
	d := disk.New(1000)
	wantErr(t, "Save", Save(d, 5, []byte("one")), api.OK)
	wantDisk(t, d, "ck-b one 0, ck-now * 0")
	if b, _ := d.Read("ck-now"); !bytes.Equal(b, sealed(nums(1, 5, sum([]byte("one"))))) {
		t.Errorf("the manifest is %x", b)
	}
	wantErr(t, "Save", Save(d, 9, []byte("two")), api.OK)
	wantDisk(t, d, "ck-a two 0, ck-now * 0")
	if b, _ := d.Read("ck-now"); !bytes.Equal(b, sealed(nums(2, 9, sum([]byte("two"))))) {
		t.Errorf("the manifest is %x", b)
	}
	// A slot need not rise, and an image may be empty.
	wantErr(t, "Save", Save(d, 0, nil), api.OK)
	wantDisk(t, d, "ck-b  0, ck-now * 0")
	wantLoad(t, d, 0, "")
	wantErr(t, "Save", Save(d, api.MaxSlot, []byte("four")), api.OK)
	wantDisk(t, d, "ck-a four 0, ck-now * 0")
	wantLoad(t, d, api.MaxSlot, "four")
}

func TestSaveRefused(t *testing.T) {
	for name, d := range map[string]*disk.Disk{
		"no disk":     nil,
		"power off":   off(t, safe("ck-b", []byte("im")), now(1, 5, "im")),
		"no manifest": mounted(t, 1000, safe("ck-now", nil)),
		"good":        mounted(t, api.MaxRoom, safe("ck-b", []byte("im")), now(1, 5, "im")),
	} {
		want := map[string]api.Errno{"no disk": api.ErrArg, "power off": api.ErrDown, "no manifest": api.ErrImage, "good": api.OK}[name]
		before := tellDisk(d)
		for _, slot := range []int{math.MinInt, -1, api.MaxSlot + 1, math.MaxInt} {
			wantErr(t, name+": slot", Save(d, slot, make([]byte, api.MaxImage+1)), api.ErrArg)
			wantErr(t, name+": slot", Save(d, slot, nil), api.ErrArg)
		}
		wantErr(t, name+": image", Save(d, 1, make([]byte, api.MaxImage+1)), api.ErrBig)
		wantDisk(t, d, before)
		wantErr(t, name, Save(d, 1, make([]byte, api.MaxImage)), want)
	}
}

func TestLastTurn(t *testing.T) {
	d := mounted(t, 1000, safe("ck-b", []byte("im")), now(api.MaxSlot-1, 5, "im"))
	wantErr(t, "Save", Save(d, 6, []byte("last")), api.OK)
	wantDisk(t, d, "ck-a last 0, ck-now * 0")
	wantErr(t, "Save", Save(d, 7, []byte("x")), api.ErrMany)
	wantErr(t, "Save", Save(d, 7, make([]byte, api.MaxImage+1)), api.ErrBig)
	wantDisk(t, d, "ck-a last 0, ck-now * 0")
	wantLoad(t, d, 6, "last")
}

// What another Save has left is laid over.
func TestSaveOverRemains(t *testing.T) {
	d := mounted(t, 1000, safe("ck-a", []byte("remains")), safe("ck-b", []byte("im")), now(1, 5, "im"), safe("ck-tmp", []byte("remains")))
	wantErr(t, "Save", Save(d, 6, []byte("new")), api.OK)
	wantDisk(t, d, "ck-a new 0, ck-now * 0")
	wantLoad(t, d, 6, "new")
	if d.Steps() != 8 {
		t.Errorf("%d steps, want 3 for each of the two areas, a Move and a Drop", d.Steps())
	}
	// Without a manifest there was no turn: its area isn't dropped.
	d = mounted(t, 1000, safe("ck-a", []byte("other")), safe("ck-b", []byte("remains")))
	wantErr(t, "Save", Save(d, 6, []byte("new")), api.OK)
	wantDisk(t, d, "ck-a other 0, ck-b new 0, ck-now * 0")
	// An image that isn't there need not be dropped.
	d = mounted(t, 1000, now(1, 5, "im"))
	wantErr(t, "Save", Save(d, 6, []byte("new")), api.OK)
	wantDisk(t, d, "ck-a new 0, ck-now * 0")
}

// Every step of a Save fails once: what is then on the disk.
func TestStepsOfSave(t *testing.T) {
	for i, want := range []string{
		"ck-a xx 0, ck-b im 0, ck-now * 0, ck-tmp * 0",   // Drop of the image
		"ck-a new 3, ck-b im 0, ck-now * 0, ck-tmp * 0",  // Append
		"ck-a new 3, ck-b im 0, ck-now * 0, ck-tmp * 0",  // Sync
		"ck-a new 0, ck-b im 0, ck-now * 0, ck-tmp * 0",  // Drop of the manifest on its way
		"ck-a new 0, ck-b im 0, ck-now * 0, ck-tmp * 20", // Append
		"ck-a new 0, ck-b im 0, ck-now * 0, ck-tmp * 20", // Sync
		"ck-a new 0, ck-b im 0, ck-now * 0, ck-tmp * 0",  // Move
		"ck-a new 0, ck-b im 0, ck-now * 0",              // Drop of the former image
	} {
		d := mounted(t, 1000, safe("ck-a", []byte("xx")), safe("ck-b", []byte("im")), now(1, 5, "im"), safe("ck-tmp", []byte("x")))
		d.Fuse(i + 1)
		wantErr(t, "Save", Save(d, 6, []byte("new")), api.ErrDown)
		// The manifest of turn 2, slot 6: 2 + 2 + 9 bytes and the sum.
		want = strings.ReplaceAll(want, "20", fmt.Sprint(len(sealed(nums(2, 6, sum([]byte("new")))))))
		wantDisk(t, d, want)
		if d.Steps() != i {
			t.Errorf("%d steps, want %d", d.Steps(), i)
		}
	}
}

func TestSaveWithoutRoom(t *testing.T) {
	man := len(now(1, 5, "im").Data)
	// No room for the image.
	d := mounted(t, man+4, safe("ck-b", []byte("im")), now(1, 5, "im"))
	wantErr(t, "Save", Save(d, 6, []byte("new")), api.ErrFull)
	wantDisk(t, d, "ck-b im 0, ck-now * 0")
	wantLoad(t, d, 5, "im")
	d.Fuse(2) // an Append, and no Sync, which finds no room
	wantErr(t, "Save", Save(d, 6, []byte("new")), api.ErrDown)
	wantDisk(t, d, "ck-a new 3, ck-b im 0, ck-now * 0")
	// No room for the manifest.
	d = mounted(t, 2*man+4, safe("ck-b", []byte("im")), now(1, 5, "im"))
	wantErr(t, "Save", Save(d, 6, []byte("new")), api.ErrFull)
	wantDisk(t, d, "ck-a new 0, ck-b im 0, ck-now * 0")
	wantLoad(t, d, 5, "im")
	d.Fuse(5) // Drop, Append, Sync; Append
	wantErr(t, "Save", Save(d, 6, []byte("new")), api.ErrDown)
	wantDisk(t, d, fmt.Sprintf("ck-a new 0, ck-b im 0, ck-now * 0, ck-tmp * %d", man))
	// Just enough.
	d = mounted(t, 2*man+5, safe("ck-b", []byte("im")), now(1, 5, "im"))
	wantErr(t, "Save", Save(d, 6, []byte("new")), api.OK)
	wantLoad(t, d, 6, "new")
	// What another Save has left in the image's area makes place first.
	d = mounted(t, 2*man+5, safe("ck-a", []byte("xyz")), safe("ck-b", []byte("im")), now(1, 5, "im"))
	wantErr(t, "Save", Save(d, 6, []byte("new")), api.OK)
}

func TestSaveAmongManyAreas(t *testing.T) {
	areas := []api.Area{safe("ck-b", []byte("im")), now(1, 5, "im")}
	for i := len(areas); i < api.MaxAreas; i++ {
		areas = append(areas, safe(fmt.Sprintf("x%d", i), nil))
	}
	d := mounted(t, 1000, areas...)
	before := tellDisk(d)
	wantErr(t, "Save", Save(d, 6, []byte("new")), api.ErrMany)
	wantDisk(t, d, before)
	d.Drop("x5")
	// There is place for the image, but not for the manifest on its way.
	wantErr(t, "Save", Save(d, 6, []byte("new")), api.ErrMany)
	wantLoad(t, d, 5, "im")
	d.Drop("x6")
	wantErr(t, "Save", Save(d, 6, []byte("new")), api.OK)
	wantLoad(t, d, 6, "new")
}

// P10.2: Load.

func TestLoad(t *testing.T) {
	wantNoLoad(t, nil, api.ErrArg)
	wantNoLoad(t, off(t, safe("ck-b", []byte("im")), now(1, 5, "im")), api.ErrDown)
	wantNoLoad(t, disk.New(0), api.OK)
	wantNoLoad(t, new(disk.Disk), api.OK)
	wantNoLoad(t, mounted(t, 1000, safe("ck-a", []byte("im")), safe("ck-b", []byte("im")), safe("ck-tmp", now(1, 5, "im").Data)), api.OK)
	big := strings.Repeat("b", api.MaxImage)
	for _, c := range []struct {
		name  string
		areas []api.Area
		slot  int
		image string
		want  api.Errno
	}{
		{"odd", []api.Area{now(7, 5, "im"), safe("ck-b", []byte("im"))}, 5, "im", api.OK},
		{"even", []api.Area{now(8, 5, "im"), safe("ck-a", []byte("im"))}, 5, "im", api.OK},
		{"both are there", []api.Area{now(8, 5, "im"), safe("ck-a", []byte("im")), safe("ck-b", []byte("bb"))}, 5, "im", api.OK},
		{"the greatest turn", []api.Area{now(api.MaxSlot, 5, "im"), safe("ck-a", []byte("im"))}, 5, "im", api.OK},
		{"the greatest slot", []api.Area{now(1, api.MaxSlot, "im"), safe("ck-b", []byte("im"))}, api.MaxSlot, "im", api.OK},
		{"slot 0", []api.Area{now(1, 0, ""), safe("ck-b", nil)}, 0, "", api.OK},
		{"the longest image", []api.Area{now(1, 3, big), safe("ck-b", []byte(big))}, 3, big, api.OK},
		{"too long an image", []api.Area{now(1, 3, big+"b"), safe("ck-b", []byte(big+"b"))}, 0, "", api.ErrImage},
		{"no image", []api.Area{now(7, 5, "im")}, 0, "", api.ErrImage},
		{"no image, though it is empty", []api.Area{now(7, 5, "")}, 0, "", api.ErrImage},
		{"the image of an even turn", []api.Area{now(7, 5, "im"), safe("ck-a", []byte("im"))}, 0, "", api.ErrImage},
		{"the image of an odd turn", []api.Area{now(8, 5, "im"), safe("ck-b", []byte("im"))}, 0, "", api.ErrImage},
		{"another sum", []api.Area{now(7, 5, "im"), safe("ck-b", []byte("in"))}, 0, "", api.ErrImage},
		{"a shorter image", []api.Area{now(7, 5, "im"), safe("ck-b", []byte("i"))}, 0, "", api.ErrImage},
	} {
		t.Run(c.name, func(t *testing.T) {
			d := mounted(t, api.MaxRoom, c.areas...)
			before := tellDisk(d)
			if c.want == api.OK {
				wantLoad(t, d, c.slot, c.image)
			} else {
				wantNoLoad(t, d, c.want)
			}
			wantDisk(t, d, before)
			if d.Steps() != 0 {
				t.Errorf("%d steps", d.Steps())
			}
		})
	}
}

// P10.3: Clean.

func TestClean(t *testing.T) {
	wantErr(t, "Clean", Clean(nil), api.ErrArg)
	wantErr(t, "Clean", Clean(off(t)), api.ErrDown)
	wantErr(t, "Clean", Clean(disk.New(0)), api.OK)
	others := []api.Area{safe("c-now", nil), safe("ck", nil), safe("cka", nil), safe("wal-000001", nil), safe("xck-a", nil), safe("0ck-", nil)}
	const left = "0ck-  0, c-now  0, ck  0, cka  0, wal-000001  0, xck-a  0"
	remains := append([]api.Area{safe("ck-", nil), safe("ck-a", []byte("a")), safe("ck-b", []byte("b")), safe("ck-nowx", nil), safe("ck-no", nil), safe("ck-tmp", nil), safe("ck-z", nil)}, others...)

	d := mounted(t, 1000, append(remains, now(1, 5, "b"))...)
	wantErr(t, "Clean", Clean(d), api.OK)
	wantDisk(t, d, "0ck-  0, c-now  0, ck  0, ck-b b 0, ck-now * 0, cka  0, wal-000001  0, xck-a  0")
	d = mounted(t, 1000, append(remains, now(2, 5, "whatever"))...)
	wantErr(t, "Clean", Clean(d), api.OK)
	wantDisk(t, d, "0ck-  0, c-now  0, ck  0, ck-a a 0, ck-now * 0, cka  0, wal-000001  0, xck-a  0")
	// Without a manifest no image is part of a checkpoint.
	d = mounted(t, 1000, remains...)
	wantErr(t, "Clean", Clean(d), api.OK)
	wantDisk(t, d, left)
	if d.Steps() != 7 {
		t.Errorf("%d steps, want one for each area", d.Steps())
	}
}

func TestCleanFails(t *testing.T) {
	for i, want := range []string{
		"ck-a a 0, ck-b b 0, ck-now * 0, ck-tmp * 0, ck-x  0",
		"ck-b b 0, ck-now * 0, ck-tmp * 0, ck-x  0",
		"ck-b b 0, ck-now * 0, ck-x  0",
	} {
		d := mounted(t, 1000, safe("ck-x", nil), safe("ck-tmp", nil), safe("ck-a", []byte("a")), safe("ck-b", []byte("b")), now(1, 5, "b"))
		d.Fuse(i + 1)
		wantErr(t, "Clean", Clean(d), api.ErrDown)
		wantDisk(t, d, want)
		d.Crash(nil)
		wantLoad(t, d, 5, "b")
	}
}

// P10.4: Piece.

func TestPiece(t *testing.T) {
	image := make([]byte, 2500)
	for i := range image {
		image[i] = byte(i * 7)
	}
	for _, c := range []struct{ at, n int }{
		{0, 1024}, {1, 1024}, {1024, 1024}, {1475, 1024}, {1476, 1024}, {1477, 1023}, {2048, 452}, {2499, 1}, {2500, 0}, {2501, 0},
		{-1, 0}, {math.MinInt, 0}, {math.MaxInt, 0},
	} {
		got := Piece(image, c.at)
		if len(got) != c.n || c.n > 0 && !bytes.Equal(got, image[c.at:c.at+c.n]) {
			t.Errorf("Piece(.., %d) has %d bytes, want %d", c.at, len(got), c.n)
		}
	}
	if len(Piece(nil, 0)) != 0 {
		t.Error("a piece of nothing")
	}
	// All pieces together are the image.
	var whole []byte
	for at := 0; at < len(image); at += api.MaxChunk {
		whole = append(whole, Piece(image, at)...)
	}
	if !bytes.Equal(whole, image) {
		t.Error("the pieces are not the image")
	}
}

// Rule 4: what is handed in is neither changed nor kept, and an answer is new memory.

func TestMemory(t *testing.T) {
	room := []byte("image and more")
	image := room[:5]
	d := disk.New(1000)
	Save(d, 5, image)
	p := Piece(image, 1)
	if string(p) != "mage" {
		t.Errorf("the piece is %q", p)
	}
	p[0] = '?'
	_ = append(p, "??????????"...)
	if string(room) != "image and more" {
		t.Errorf("what was handed in is now %q", room)
	}
	image[0] = '?'
	wantLoad(t, d, 5, "image")
	_, got, _, _ := Load(d)
	got[0] = '?'
	wantLoad(t, d, 5, "image")
}

// P10.5: whenever the power fails, and whatever is kept.

func TestEveryStepEveryByte(t *testing.T) {
	starts := []struct {
		name  string
		there bool
		areas []api.Area
	}{
		{"none", false, nil},
		{"remains alone", false, []api.Area{safe("ck-a", []byte("x")), safe("ck-b", []byte("y"))}},
		{"odd", true, []api.Area{safe("ck-b", []byte("old")), now(1, 5, "old")}},
		{"even", true, []api.Area{safe("ck-a", []byte("old")), now(2, 5, "old")}},
		{"odd, and remains", true, []api.Area{safe("ck-b", []byte("old")), now(1, 5, "old"), safe("ck-a", []byte("new")), safe("ck-tmp", []byte("x"))}},
	}
	for _, c := range starts {
		for _, room := range []int{40, 50, 60, 1000} {
			for fuse := range 12 {
				for kept := range 30 {
					d := mounted(t, room, c.areas...)
					d.Fuse(fuse)
					e := Save(d, 6, []byte("fresh"))
					d.Crash(slices.Repeat([]int{kept}, 5))
					slot, image, ok, loaded := Load(d)
					former := ok == c.there && (!ok || slot == 5 && string(image) == "old")
					fresh := ok && slot == 6 && string(image) == "fresh"
					if loaded != api.OK || e == api.OK && !fresh || e == api.ErrFull && !former || !fresh && !former {
						t.Errorf("%s, room %d, fuse %d, kept %d: Save = %d, Load = %d, %q, %v, %d", c.name, room, fuse, kept, e, slot, image, ok, loaded)
					}
					wantErr(t, "Clean", Clean(d), api.OK)
					if n := len(d.List()); n != 0 && n != 2 {
						t.Errorf("%s: %d areas behind a Clean", c.name, n)
					}
				}
			}
		}
	}
}

// A long life: what a Load must find is followed along.
func TestLossOfPower(t *testing.T) {
	type point struct {
		slot  int
		image string
		there bool
	}
	for seed := range int64(300) {
		rnd := rand.New(rand.NewSource(seed))
		d := disk.New(40 + rnd.Intn(100))
		can := []point{{}}
		for range 60 {
			fresh := point{rnd.Intn(100), strings.Repeat("i", rnd.Intn(30)), true}
			if rnd.Intn(2) == 0 {
				d.Fuse(1 + rnd.Intn(10))
			}
			switch Save(d, fresh.slot, []byte(fresh.image)) {
			case api.OK:
				can = []point{fresh}
			case api.ErrDown:
				can = append(can, fresh)
			}
			if d.Down() || rnd.Intn(3) == 0 {
				d.Crash([]int{rnd.Intn(40), rnd.Intn(40), rnd.Intn(40), rnd.Intn(40)})
			}
			if rnd.Intn(3) == 0 && Clean(d) == api.ErrDown {
				d.Crash(nil)
			}
			slot, image, there, e := Load(d)
			got := point{slot, string(image), there}
			if e != api.OK || !slices.Contains(can, got) {
				t.Fatalf("seed %d: Load = %v, %d, want one of %v", seed, got, e, can)
			}
			can = []point{got}
			d.Fuse(0)
		}
	}
}

// The chapter's examples.

func TestExamples(t *testing.T) {
	d := disk.New(1000)
	wantErr(t, "Save", Save(d, 5, []byte("abc")), api.OK)
	wantDisk(t, d, "ck-b abc 0, ck-now * 0")
	wantLoad(t, d, 5, "abc")
	wantErr(t, "Save", Save(d, 9, []byte("d")), api.OK)
	wantDisk(t, d, "ck-a d 0, ck-now * 0")
	wantLoad(t, d, 9, "d")
}

// Whatever lies in the areas, a Load ends; and what it takes to be a checkpoint is one.

func FuzzLoad(f *testing.F) {
	f.Add(now(1, 5, "im").Data, []byte("im"))
	f.Add(now(2, 5, "im").Data, []byte("im"))
	f.Add(now(1, 5, "im").Data, []byte("in"))
	f.Add([]byte{}, []byte{})
	f.Fuzz(func(t *testing.T, man, image []byte) {
		d, e := disk.Mount(api.MaxRoom, []api.Area{safe("ck-a", image), safe("ck-b", image), safe("ck-now", man)})
		if e != api.OK {
			return
		}
		slot, got, ok, e := Load(d)
		if ok != (e == api.OK) || !ok && (slot != 0 || len(got) != 0) {
			t.Fatalf("Load = %d, %q, %v, %d", slot, got, ok, e)
		}
		if !ok {
			return
		}
		if !bytes.Equal(got, image) || Save(d, slot, got) != api.OK {
			t.Errorf("Load = %d, %q", slot, got)
		}
		wantLoad(t, d, slot, string(image))
	})
}
