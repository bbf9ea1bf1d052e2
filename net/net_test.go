package net

import (
	"fmt"
	"math"
	"math/rand"
	"slices"
	"strings"
	"testing"

	"synod/api"
)

func packet(from, to int, data string) api.Packet {
	return api.Packet{From: from, To: to, Data: []byte(data)}
}

// tell is packets as a text.
func tell(ps []api.Packet) string {
	var all []string
	for _, p := range ps {
		all = append(all, fmt.Sprintf("%d>%d:%s", p.From, p.To, p.Data))
	}
	return strings.Join(all, " ")
}

// wantNet asks that these packets are under way, and as many.
func wantNet(t *testing.T, n *Net, want string) {
	t.Helper()
	l := n.List()
	if got := tell(l); got != want {
		t.Errorf("under way is %q, want %q", got, want)
	}
	if n.Len() != len(l) {
		t.Errorf("Len is %d of %d packets", n.Len(), len(l))
	}
}

func wantPut(t *testing.T, n *Net, p api.Packet, want api.Errno) {
	t.Helper()
	if got := n.Put(p); got != want {
		t.Errorf("Put(%d>%d, %d bytes) = %d, want %d", p.From, p.To, len(p.Data), got, want)
	}
}

func wantTake(t *testing.T, n *Net, i int, want string) {
	t.Helper()
	if p, ok := n.Take(i); !ok || tell([]api.Packet{p}) != want {
		t.Errorf("Take(%d) = %s, %v, want %s", i, tell([]api.Packet{p}), ok, want)
	}
}

func wantNone(t *testing.T, n *Net, i int) {
	t.Helper()
	if p, ok := n.Take(i); ok || p.From != 0 || p.To != 0 || len(p.Data) != 0 {
		t.Errorf("Take(%d) = %s, %v, want nothing", i, tell([]api.Packet{p}), ok)
	}
}

// three is a net with three packets.
func three(t *testing.T) *Net {
	t.Helper()
	n := New()
	wantPut(t, n, packet(1, 2, "a"), api.OK)
	wantPut(t, n, packet(2, 3, "b"), api.OK)
	wantPut(t, n, packet(3, 1, "c"), api.OK)
	return n
}

// full is a net with as many packets as there may be.
func full(t *testing.T) *Net {
	t.Helper()
	n := New()
	for i := range api.MaxNet {
		wantPut(t, n, packet(1, 2+i%2, fmt.Sprint(i)), api.OK)
	}
	return n
}

// P12.1: Put.

func TestPut(t *testing.T) {
	n := New()
	wantNet(t, n, "")
	wantPut(t, n, packet(1, 2, "a"), api.OK)
	wantPut(t, n, packet(1, 2, "a"), api.OK)
	wantPut(t, n, packet(2, 1, ""), api.OK)
	wantPut(t, n, packet(5, 5, "self"), api.OK)
	wantNet(t, n, "1>2:a 1>2:a 2>1: 5>5:self")
}

func TestPutNodes(t *testing.T) {
	ids := []int{math.MinInt, -9, -1, 0, 1, 2, 8, 9, 10, 11, math.MaxInt}
	for _, from := range ids {
		for _, to := range ids {
			n := New()
			right := from >= 0 && from <= 9 && to >= 0 && to <= 9
			if right {
				wantPut(t, n, packet(from, to, "x"), api.OK)
				wantNet(t, n, fmt.Sprintf("%d>%d:x", from, to))
				continue
			}
			wantPut(t, n, packet(from, to, "x"), api.ErrArg)
			wantNet(t, n, "")
		}
	}
}

func TestPutBig(t *testing.T) {
	n := New()
	wantPut(t, n, api.Packet{From: 1, To: 2, Data: make([]byte, 65536)}, api.OK)
	wantPut(t, n, api.Packet{From: 1, To: 2, Data: make([]byte, 65537)}, api.ErrBig)
	if p, ok := n.Take(0); !ok || len(p.Data) != 65536 {
		t.Errorf("Take = %d bytes, %v", len(p.Data), ok)
	}
	wantNet(t, n, "")
}

func TestPutMany(t *testing.T) {
	n := full(t)
	before := tell(n.List())
	if n.Len() != 512 {
		t.Fatalf("Len = %d", n.Len())
	}
	wantPut(t, n, packet(1, 2, "x"), api.ErrMany)
	wantNet(t, n, before)
	wantTake(t, n, 511, "1>3:511")
	wantPut(t, n, packet(1, 2, "x"), api.OK)
	wantPut(t, n, packet(1, 2, "y"), api.ErrMany)
	wantTake(t, n, 511, "1>2:x")
}

// The first error that is named is the answer.
func TestPutOrder(t *testing.T) {
	big := make([]byte, api.MaxMsg+1)
	for _, n := range []*Net{New(), full(t)} {
		before := tell(n.List())
		wantPut(t, n, api.Packet{From: 10, To: 1, Data: big}, api.ErrArg)
		wantPut(t, n, api.Packet{From: 1, To: -1, Data: big}, api.ErrArg)
		wantPut(t, n, api.Packet{From: 1, To: 10}, api.ErrArg)
		wantPut(t, n, api.Packet{From: 1, To: 1, Data: big}, api.ErrBig)
		wantNet(t, n, before)
	}
}

// P12.2: Take, Copy, Lose, List.

func TestTake(t *testing.T) {
	for i, want := range []struct{ taken, left string }{
		{"1>2:a", "2>3:b 3>1:c"},
		{"2>3:b", "1>2:a 3>1:c"},
		{"3>1:c", "1>2:a 2>3:b"},
	} {
		n := three(t)
		wantTake(t, n, i, want.taken)
		wantNet(t, n, want.left)
	}
}

func TestTakeNone(t *testing.T) {
	n := three(t)
	for _, i := range []int{math.MinInt, -3, -1, 3, 4, math.MaxInt} {
		wantNone(t, n, i)
	}
	wantNet(t, n, "1>2:a 2>3:b 3>1:c")
	wantTake(t, n, 0, "1>2:a")
	wantTake(t, n, 0, "2>3:b")
	wantTake(t, n, 0, "3>1:c")
	wantNone(t, n, 0)
	wantNet(t, n, "")
}

func TestCopy(t *testing.T) {
	n := three(t)
	for _, i := range []int{math.MinInt, -1, 3, 4, math.MaxInt} {
		if n.Copy(i) {
			t.Errorf("Copy(%d)", i)
		}
	}
	wantNet(t, n, "1>2:a 2>3:b 3>1:c")
	if !n.Copy(2) || !n.Copy(1) || !n.Copy(4) {
		t.Error("Copy")
	}
	wantNet(t, n, "1>2:a 2>3:b 3>1:c 3>1:c 2>3:b 2>3:b")
	if New().Copy(0) {
		t.Error("Copy of nothing")
	}
}

func TestCopyFull(t *testing.T) {
	n := full(t)
	before := tell(n.List())
	for _, i := range []int{0, 1, 511, 512} {
		if n.Copy(i) {
			t.Errorf("Copy(%d) of a full net", i)
		}
	}
	wantNet(t, n, before)
	wantTake(t, n, 0, "1>2:0")
	if !n.Copy(0) || n.Copy(0) || n.Len() != 512 {
		t.Error("Copy where there is room for one")
	}
	wantTake(t, n, 511, "1>3:1")
}

func TestLose(t *testing.T) {
	all := []api.Packet{
		packet(1, 2, "a"), packet(2, 1, "b"), packet(3, 3, "c"), packet(0, 9, "d"), packet(9, 3, "e"), packet(1, 2, "a"),
	}
	for node, want := range map[int]struct {
		gone int
		left string
	}{
		1:           {3, "3>3:c 0>9:d 9>3:e"},
		2:           {3, "3>3:c 0>9:d 9>3:e"},
		3:           {2, "1>2:a 2>1:b 0>9:d 1>2:a"},
		0:           {1, "1>2:a 2>1:b 3>3:c 9>3:e 1>2:a"},
		9:           {2, "1>2:a 2>1:b 3>3:c 1>2:a"},
		4:           {0, "1>2:a 2>1:b 3>3:c 0>9:d 9>3:e 1>2:a"},
		-1:          {0, "1>2:a 2>1:b 3>3:c 0>9:d 9>3:e 1>2:a"},
		math.MaxInt: {0, "1>2:a 2>1:b 3>3:c 0>9:d 9>3:e 1>2:a"},
	} {
		n := New()
		for _, p := range all {
			wantPut(t, n, p, api.OK)
		}
		if got := n.Lose(node); got != want.gone {
			t.Errorf("Lose(%d) = %d, want %d", node, got, want.gone)
		}
		wantNet(t, n, want.left)
		if got := n.Lose(node); got != 0 {
			t.Errorf("Lose(%d) once more = %d", node, got)
		}
		wantPut(t, n, packet(node&7, 1, "new"), api.OK)
		wantNet(t, n, strings.TrimSpace(want.left+fmt.Sprintf(" %d>1:new", node&7)))
	}
}

func TestLoseMakesRoom(t *testing.T) {
	n := full(t)
	if got := n.Lose(2); got != 256 || n.Len() != 256 {
		t.Errorf("Lose = %d, %d left", got, n.Len())
	}
	for range 256 {
		wantPut(t, n, packet(1, 1, ""), api.OK)
	}
	wantPut(t, n, packet(1, 1, ""), api.ErrMany)
	if got := n.Lose(1); got != 512 || n.Len() != 0 {
		t.Errorf("Lose of all = %d, %d left", got, n.Len())
	}
}

// Rule 5, and the net that nobody made.

func TestNil(t *testing.T) {
	var n *Net
	wantPut(t, n, packet(1, 2, "a"), api.ErrArg)
	wantPut(t, n, api.Packet{From: 1, To: 2, Data: make([]byte, api.MaxMsg+1)}, api.ErrArg)
	wantNone(t, n, 0)
	wantNone(t, n, -1)
	wantNet(t, n, "")
	if n.Copy(0) || n.Lose(0) != 0 || n.Lose(1) != 0 || len(n.List()) != 0 || n.Len() != 0 {
		t.Error("a nil net has something")
	}
}

func TestZero(t *testing.T) {
	var n Net
	wantNone(t, &n, 0)
	if n.Copy(0) || n.Lose(0) != 0 {
		t.Error("there is something")
	}
	wantPut(t, &n, packet(1, 2, "a"), api.OK)
	wantNet(t, &n, "1>2:a")
}

// Rule 4: no memory is shared.

func TestPutKeepsNothing(t *testing.T) {
	n := New()
	room := []byte("abcd")
	wantPut(t, n, api.Packet{From: 1, To: 2, Data: room[:2]}, api.OK)
	room[0], room[2] = 'x', 'x'
	wantNet(t, n, "1>2:ab")
	p, _ := n.Take(0)
	p.Data = append(p.Data, "zz"...)
	p.Data[0] = 'z'
	if string(room) != "xbxd" {
		t.Errorf("the argument is %q now", room)
	}
}

func TestListIsNew(t *testing.T) {
	n := three(t)
	l := n.List()
	l[0].Data[0] = 'x'
	_ = append(l[1].Data, 'y')
	l[2] = packet(9, 9, "z")
	_ = append(l[:1], packet(8, 8, "y"))
	wantNet(t, n, "1>2:a 2>3:b 3>1:c")
	l = n.List()
	n.Lose(1)
	n.Lose(2)
	if tell(l) != "1>2:a 2>3:b 3>1:c" {
		t.Errorf("the list is %q now", tell(l))
	}
}

func TestCopyIsNew(t *testing.T) {
	n := three(t)
	n.Copy(0)
	p, _ := n.Take(0)
	p.Data[0] = 'x'
	wantNet(t, n, "2>3:b 3>1:c 1>2:a")
	q, _ := n.Take(2)
	q.Data[0] = 'y'
	if string(p.Data) != "x" {
		t.Error("two copies share memory")
	}
}

// Rule 6: two nets never meet.

func TestTwoNets(t *testing.T) {
	a, b := three(t), New()
	wantPut(t, b, packet(4, 5, "z"), api.OK)
	a.Lose(4)
	b.Lose(1)
	a.Copy(0)
	wantNet(t, a, "1>2:a 2>3:b 3>1:c 1>2:a")
	wantNet(t, b, "4>5:z")
}

// All calls against a plain list of texts.

// model is a net whose packets are never moved: gone ones are left out where it tells.
type model struct {
	all  []api.Packet
	gone []bool
}

// under is the places of those that are under way.
func (m *model) under() []int {
	var at []int
	for i := range m.all {
		if !m.gone[i] {
			at = append(at, i)
		}
	}
	return at
}

func (m *model) put(p api.Packet) api.Errno {
	for _, id := range []int{p.From, p.To} {
		if !slices.Contains([]int{0, 1, 2, 3, 4, 5, 6, 7, 8, 9}, id) {
			return api.ErrArg
		}
	}
	if len(p.Data) > 65536 {
		return api.ErrBig
	}
	if len(m.under()) == 512 {
		return api.ErrMany
	}
	m.all, m.gone = append(m.all, p), append(m.gone, false)
	return api.OK
}

func (m *model) lose(node int) int {
	count := 0
	for _, at := range m.under() {
		if m.all[at].From == node || m.all[at].To == node {
			m.gone[at] = true
			count++
		}
	}
	return count
}

func (m *model) list() string {
	var left []api.Packet
	for _, at := range m.under() {
		left = append(left, m.all[at])
	}
	return tell(left)
}

// life is a random walk through all calls.
func life(t *testing.T, r *rand.Rand, steps, puts int) {
	n, m := New(), &model{}
	for step := range steps {
		i := r.Intn(len(m.under())+2) - 1
		there := i >= 0 && i < len(m.under())
		switch k := r.Intn(10 + puts); {
		case k < 3:
			p, ok := n.Take(i)
			if ok != there {
				t.Fatalf("Take(%d) = %v", i, ok)
			}
			if there {
				at := m.under()[i]
				m.gone[at] = true
				if tell([]api.Packet{p}) != tell(m.all[at:at+1]) {
					t.Fatalf("Take(%d) = %s", i, tell([]api.Packet{p}))
				}
			}
		case k < 6:
			want := there && m.put(m.all[m.under()[i]]) == api.OK
			if got := n.Copy(i); got != want {
				t.Fatalf("Copy(%d) = %v", i, got)
			}
		case k < 7 && r.Intn(10) == 0:
			node := r.Intn(12) - 1
			if got, want := n.Lose(node), m.lose(node); got != want {
				t.Fatalf("Lose(%d) = %d, want %d", node, got, want)
			}
		default:
			p := packet(r.Intn(12)-1, r.Intn(11), fmt.Sprint(step))
			if got, want := n.Put(p), m.put(p); got != want {
				t.Fatalf("Put(%s) = %d, want %d", tell([]api.Packet{p}), got, want)
			}
		}
		if got := tell(n.List()); got != m.list() || n.Len() != len(m.under()) {
			t.Fatalf("under way is %q, want %q", got, m.list())
		}
	}
}

func TestAgainstModel(t *testing.T) {
	for seed := range 40 {
		life(t, rand.New(rand.NewSource(int64(seed))), 200, 1)
	}
	// With so many puts the net gets full.
	life(t, rand.New(rand.NewSource(99)), 900, 60)
}

func TestExamples(t *testing.T) {
	n := New()
	a, b, c := packet(1, 2, "a"), packet(1, 3, "b"), packet(1, 4, "c")
	for _, p := range []api.Packet{a, b, c} {
		wantPut(t, n, p, api.OK)
	}
	if !n.Copy(0) {
		t.Error("Copy")
	}
	wantNet(t, n, tell([]api.Packet{a, b, c, a}))
	wantTake(t, n, 1, tell([]api.Packet{b}))
	wantNet(t, n, tell([]api.Packet{a, c, a}))
}
