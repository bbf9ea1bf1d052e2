package session

import (
	"fmt"
	"math"
	"math/rand"
	"slices"
	"testing"

	"synod/api"
)

func res(kind, re, im int) api.Res { return api.Res{Kind: kind, Re: re, Im: im} }

// reply is the result that the tests keep for a Seq: another one for each, of all three kinds.
func reply(seq int) api.Res { return res(api.Value+seq%3, seq, -seq) }

func kept(seqs ...int) []api.Kept {
	var list []api.Kept
	for _, seq := range seqs {
		list = append(list, api.Kept{Seq: seq, Res: reply(seq)})
	}
	return list
}

func sess(no, ack int, seqs ...int) api.Sess { return api.Sess{No: no, Ack: ack, Kept: kept(seqs...)} }

func cmd(no, seq, ack int) api.Cmd {
	return api.Cmd{Sess: no, Seq: seq, Ack: ack, Op: api.Op{Kind: api.Get}}
}

// full is a table of MaxSess sessions, of the numbers 10, 20 and so on.
func full() Table {
	var t Table
	for n := range api.MaxSess {
		t = append(t, sess(10*(n+1), 5, 6, 8))
	}
	return t
}

// show is a table as a text, in which nil and empty are one.
func show(t Table) string {
	text := ""
	for _, s := range t {
		text += fmt.Sprintf("[%d ack %d", s.No, s.Ack)
		for _, k := range s.Kept {
			text += fmt.Sprintf(" %d:%v", k.Seq, k.Res)
		}
		text += "]"
	}
	return text
}

func wantTable(t *testing.T, what string, got, want Table) {
	t.Helper()
	if show(got) != show(want) {
		t.Errorf("%s:\n got %s\nwant %s", what, show(got), show(want))
	}
}

// edges are numbers around all bounds.
func edges() []int {
	return []int{math.MinInt, -1, 0, 1, 2, 3, 4, 5, 6, 7, api.MaxSessNo - 1, api.MaxSessNo, api.MaxSessNo + 1, api.MaxSeq - 1, api.MaxSeq, api.MaxSeq + 1, math.MaxInt}
}

func within(n, low, high int) bool { return n >= low && n <= high }

// rising are n numbers from one on.
func rising(from, n int) []int {
	var list []int
	for i := range n {
		list = append(list, from+i)
	}
	return list
}

func validTables() []Table {
	return []Table{
		nil, {}, {{No: 1}}, {{No: api.MaxSessNo}}, {{No: 3, Kept: []api.Kept{}}}, full(),
		{sess(1, 0, 1)}, {sess(1, api.MaxSeq)}, {sess(1, api.MaxSeq-1, api.MaxSeq)}, {sess(1, 0, api.MaxSeq)},
		{sess(1, 0, rising(1, 8)...)}, {sess(7, api.MaxSeq-8, rising(api.MaxSeq-7, 8)...)}, {sess(7, 3, 4, 9, 11)},
		{sess(1, 9, 10), sess(2, 0), sess(api.MaxSessNo, 4, 5, 7)}, {sess(5, 1), sess(6, 1, 2), sess(9, 0, 3)},
		{{No: 1, Kept: []api.Kept{{Seq: 1, Res: res(api.Value, math.MinInt, math.MaxInt)}}}},
	}
}

func wrongTables() []Table {
	list := []Table{
		{{}}, {{No: -1}}, {{No: math.MinInt}}, {{No: api.MaxSessNo + 1}}, {{No: math.MaxInt}}, {{No: 1}, {No: 1}}, {{No: 2}, {No: 1}}, {{No: 1}, {No: 3}, {No: 2}}, {{No: 1}, {}},
		append(full(), sess(1000, 0)), make(Table, 17), make(Table, 1000),
		{sess(1, -1)}, {sess(1, api.MaxSeq+1)}, {sess(1, math.MinInt)}, {sess(1, math.MaxInt)}, {sess(1, math.MaxInt, math.MinInt)},
		{sess(1, 0, 0)}, {sess(1, 0, -1)}, {sess(1, 5, 5)}, {sess(1, 5, 4)}, {sess(1, 5, 7, 6)}, {sess(1, 5, 6, 6)}, {sess(1, 5, 6, 8, 7)}, {sess(1, 5, 6, 5)},
		{sess(1, 0, api.MaxSeq+1)}, {sess(1, 0, 1, math.MaxInt)}, {sess(1, api.MaxSeq, api.MaxSeq+1)}, {sess(1, 0, rising(1, 9)...)}, {sess(1, 0, rising(1, 1000)...)},
		{sess(1, 0, 1), sess(2, 3, 3)}, {sess(1, 3, 3), sess(2, 3, 4)},
	}
	for _, kind := range []int{math.MinInt, -1, api.NoRes, api.Stale, api.Crowded, api.Unheard, api.Overloaded, api.Retired, api.Elsewhere, 10, math.MaxInt} {
		list = append(list, Table{{No: 1, Kept: []api.Kept{{Seq: 1, Res: res(kind, 0, 0)}}}})
		list = append(list, Table{{No: 1, Kept: []api.Kept{{Seq: 1, Res: res(api.Value, 0, 0)}, {Seq: 2, Res: res(kind, 0, 0)}}}})
	}
	return list
}

// P19.1: Valid.

func TestValid(t *testing.T) {
	for _, x := range validTables() {
		if !x.Valid() {
			t.Error("not valid:", show(x))
		}
	}
	for _, x := range wrongTables() {
		if x.Valid() {
			t.Error("valid:", show(x))
		}
	}
}

func TestValidAtAllEdges(t *testing.T) {
	for _, a := range edges() {
		for _, b := range edges() {
			want := within(a, 1, 1<<30) && within(b, 1, 1<<30) && a < b
			if x := (Table{{No: a}, {No: b}}); x.Valid() != want {
				t.Errorf("%s: %v", show(x), x.Valid())
			}
			for _, c := range edges() {
				want := within(a, 0, 1<<40) && within(b, 1, 1<<40) && within(c, 1, 1<<40) && a < b && b < c
				if x := (Table{{No: 1, Ack: a, Kept: []api.Kept{{Seq: b, Res: res(2, 0, 0)}, {Seq: c, Res: res(3, 0, 0)}}}}); x.Valid() != want {
					t.Errorf("%s: %v", show(x), x.Valid())
				}
			}
		}
	}
}

func TestValidCounts(t *testing.T) {
	for n := range 40 {
		var many Table
		for i := range n {
			many = append(many, sess(i+1, 0))
		}
		if many.Valid() != (n <= 16) {
			t.Errorf("%d sessions: %v", n, many.Valid())
		}
		if one := (Table{sess(1, 0), sess(2, 0, rising(1, n)...)}); one.Valid() != (n <= 8) {
			t.Errorf("%d replies: %v", n, one.Valid())
		}
	}
}

// Clone.

func TestClone(t *testing.T) {
	for _, x := range append(validTables(), wrongTables()...) {
		wantTable(t, "Clone", x.Clone(), x)
	}
}

// spoil overwrites all that a table holds, the room behind its lists included.
func spoil(x Table) {
	for _, s := range x[:cap(x)] {
		list := s.Kept[:cap(s.Kept)]
		for i := range list {
			list[i] = api.Kept{Seq: -9, Res: res(-9, -9, -9)}
		}
	}
	x = x[:cap(x)]
	for i := range x {
		x[i] = api.Sess{No: -9, Ack: -9}
	}
}

// roomy is a table with room behind all its lists, and something in it.
func roomy(x Table) Table {
	room := make(Table, 0, len(x)+3)
	for _, s := range x {
		s.Kept = append(append(make([]api.Kept, 0, len(s.Kept)+3), s.Kept...), kept(901, 902, 903)...)[:len(s.Kept)]
		room = append(room, s)
	}
	return append(room, sess(801, 0, 1), sess(802, 0, 2), sess(803, 0, 3))[:len(x)]
}

// all is a table with the room behind its lists, as a text.
func all(x Table) string {
	text := ""
	for _, s := range x[:cap(x)] {
		text += fmt.Sprint(s.No, s.Ack, s.Kept[:cap(s.Kept)], " ")
	}
	return text
}

// wantOwn is that a call changes nothing of its table, and that its answer shares no memory with that.
func wantOwn(t *testing.T, what string, x Table, call func(Table) Table) {
	t.Helper()
	asked := roomy(x)
	before := all(asked)
	answer := call(asked)
	if all(asked) != before {
		t.Errorf("%s: its table has changed:\n got %s\nwant %s", what, all(asked), before)
	}
	text := show(answer)
	spoil(asked)
	if show(answer) != text {
		t.Errorf("%s: the answer hangs on its table: %s, was %s", what, show(answer), text)
	}
	asked = roomy(x)
	spoil(call(asked))
	if all(asked) != before {
		t.Errorf("%s: the table hangs on the answer: %s, was %s", what, all(asked), before)
	}
}

// wantApart is that no two lists of one answer share memory, the room behind them included.
func wantApart(t *testing.T, what string, answer Table) {
	t.Helper()
	for _, s := range answer {
		list := s.Kept[:cap(s.Kept)]
		for k := range list {
			list[k] = api.Kept{Seq: s.No}
		}
	}
	for _, s := range answer {
		for _, k := range s.Kept[:cap(s.Kept)] {
			if k.Seq != s.No {
				t.Errorf("%s: the replies of session %d share memory with those of %d", what, s.No, k.Seq)
			}
		}
	}
}

func TestMemory(t *testing.T) {
	for n, x := range append(validTables(), wrongTables()...) {
		for name, call := range map[string]func(Table) Table{
			"Clone":                  func(x Table) Table { return x.Clone() },
			"Ask of a new one":       func(x Table) Table { y, _, _ := x.Ask(cmd(4, 3, 2)); return y },
			"Ask of one in front":    func(x Table) Table { y, _, _ := x.Ask(cmd(1, 3, 2)); return y },
			"Ask that lets go":       func(x Table) Table { y, _, _ := x.Ask(cmd(10, 8, 6)); return y },
			"Ask that lets go all":   func(x Table) Table { y, _, _ := x.Ask(cmd(10, 80, 79)); return y },
			"Ask that answers":       func(x Table) Table { y, _, _ := x.Ask(cmd(10, 6, 0)); return y },
			"Keep of a new one":      func(x Table) Table { return x.Keep(cmd(10, 7, 0), reply(7)) },
			"Keep of one in front":   func(x Table) Table { return x.Keep(cmd(7, 5, 0), reply(5)) },
			"Keep of one kept":       func(x Table) Table { return x.Keep(cmd(10, 6, 0), reply(7)) },
			"Keep without a session": func(x Table) Table { return x.Keep(cmd(11, 6, 0), reply(7)) },
			"Find": func(x Table) Table {
				var y Table
				for _, no := range []int{1, 5, 7, 10, 11, 160} {
					s, _ := x.Find(no)
					y = append(y, s)
				}
				return y
			},
		} {
			what := fmt.Sprintf("table %d: %s", n, name)
			wantOwn(t, what, x, call)
			wantApart(t, what, call(roomy(x)))
		}
	}
}

// Find.

func TestFind(t *testing.T) {
	for _, x := range validTables() {
		for _, s := range x {
			got, there := x.Find(s.No)
			if !there || show(Table{got}) != show(Table{s}) {
				t.Errorf("Find(%d) of %s: %v, %v", s.No, show(x), got, there)
			}
		}
		for _, no := range append(edges(), 11, 15, 155, 161, 1000) {
			if slices.ContainsFunc(x, func(s api.Sess) bool { return s.No == no }) {
				continue
			}
			if got, there := x.Find(no); there || got.No != 0 || got.Ack != 0 || len(got.Kept) != 0 {
				t.Errorf("Find(%d) of %s: %v, %v", no, show(x), got, there)
			}
		}
	}
}

// P19.2

// wantAsk is that Ask answers so; NoRes says that the command is to be run.
func wantAsk(t *testing.T, x Table, c api.Cmd, want Table, r api.Res) {
	t.Helper()
	what := fmt.Sprintf("Ask(%d, Seq %d, Ack %d) of %s", c.Sess, c.Seq, c.Ack, show(x))
	got, result, over := x.Ask(c)
	if result != r || over != (r != api.Res{}) {
		t.Errorf("%s: %v, %v, want %v", what, result, over, r)
	}
	wantTable(t, what, got, want)
	if !got.Valid() {
		t.Errorf("%s: the answer is not valid", what)
	}
}

func TestAskOpens(t *testing.T) {
	three := Table{sess(10, 1, 2), sess(20, 0), sess(30, 5, 7, 9)}
	wantAsk(t, nil, cmd(5, 1, 0), Table{sess(5, 0)}, api.Res{})
	wantAsk(t, Table{}, cmd(api.MaxSessNo, api.MaxSeq, api.MaxSeq-1), Table{sess(api.MaxSessNo, api.MaxSeq-1)}, api.Res{})
	wantAsk(t, three, cmd(1, 4, 2), Table{sess(1, 2), three[0], three[1], three[2]}, api.Res{})
	wantAsk(t, three, cmd(19, 4, 3), Table{three[0], sess(19, 3), three[1], three[2]}, api.Res{})
	wantAsk(t, three, cmd(21, 4, 0), Table{three[0], three[1], sess(21, 0), three[2]}, api.Res{})
	wantAsk(t, three, cmd(31, 9, 1), Table{three[0], three[1], three[2], sess(31, 1)}, api.Res{})
}

func TestCrowded(t *testing.T) {
	sixteen := full()
	for _, no := range []int{1, 9, 11, 85, 159, 161, api.MaxSessNo} {
		for _, seq := range []int{1, 6, 9} {
			wantAsk(t, sixteen, cmd(no, seq, seq-1), sixteen, res(api.Crowded, 0, 0))
		}
	}
	// The sessions that are there go on.
	for n, s := range sixteen {
		want := full()
		want[n] = sess(s.No, 6, 8)
		wantAsk(t, sixteen, cmd(s.No, 7, 6), want, api.Res{})
		wantAsk(t, sixteen, cmd(s.No, 8, 2), sixteen, reply(8))
	}
	fifteen := full()[:15]
	wantAsk(t, fifteen, cmd(160, 7, 0), append(full()[:15], sess(160, 0)), api.Res{})
	wantAsk(t, fifteen, cmd(1, 7, 0), append(Table{sess(1, 0)}, fifteen...), api.Res{})
}

func TestAcknowledged(t *testing.T) {
	x := Table{sess(3, 4, 6), sess(7, 2, 3, 5, 6, 9), sess(8, 0, 1)}
	for _, c := range []struct {
		ack, want int
		kept      []int
	}{
		{0, 2, []int{3, 5, 6, 9}}, {1, 2, []int{3, 5, 6, 9}}, {2, 2, []int{3, 5, 6, 9}},
		{3, 3, []int{5, 6, 9}}, {4, 4, []int{5, 6, 9}}, {5, 5, []int{6, 9}}, {6, 6, []int{9}}, {8, 8, []int{9}}, {9, 9, nil}, {50, 50, nil}, {98, 98, nil},
	} {
		wantAsk(t, x, cmd(7, 99, c.ack), Table{x[0], sess(7, c.want, c.kept...), x[2]}, api.Res{})
	}
}

func TestStale(t *testing.T) {
	x := Table{sess(7, 5, 6, 9)}
	for seq := 1; seq <= 5; seq++ {
		for ack := range seq {
			wantAsk(t, x, cmd(7, seq, ack), x, res(api.Stale, 0, 0))
		}
	}
	most := Table{sess(7, api.MaxSeq)}
	wantAsk(t, most, cmd(7, api.MaxSeq, api.MaxSeq-1), most, res(api.Stale, 0, 0))
	// Stale comes ahead of Unheard.
	crammed := Table{sess(7, 5, 6, 7, 8, 9, 10, 11, 12, 13)}
	wantAsk(t, crammed, cmd(7, 5, 3), crammed, res(api.Stale, 0, 0))
}

func TestKeptReplies(t *testing.T) {
	x := Table{sess(7, 5, 6, 9, 10)}
	for _, seq := range []int{6, 9, 10} {
		wantAsk(t, x, cmd(7, seq, 0), x, reply(seq))
		wantAsk(t, x, cmd(7, seq, 5), x, reply(seq))
	}
	wantAsk(t, x, cmd(7, 10, 6), Table{sess(7, 6, 9, 10)}, reply(10))
	wantAsk(t, x, cmd(7, 10, 9), Table{sess(7, 9, 10)}, reply(10))
	for _, seq := range []int{7, 8, 11, api.MaxSeq} {
		wantAsk(t, x, cmd(7, seq, 5), x, api.Res{})
	}
	// A reply that is kept comes ahead of Unheard.
	crammed := Table{sess(7, 5, 6, 7, 8, 10, 11, 12, 13, 14)}
	for _, seq := range []int{6, 10, 14} {
		wantAsk(t, crammed, cmd(7, seq, 5), crammed, reply(seq))
	}
}

func TestUnheard(t *testing.T) {
	eight := Table{sess(3, 0, 1), sess(7, 5, 7, 8, 10, 11, 12, 13, 14, 15)}
	for _, seq := range []int{6, 9, 16, api.MaxSeq} {
		wantAsk(t, eight, cmd(7, seq, 0), eight, res(api.Unheard, 0, 0))
		wantAsk(t, eight, cmd(7, seq, 5), eight, res(api.Unheard, 0, 0))
	}
	// The Ack counts, whatever the answer.
	wantAsk(t, eight, cmd(7, 9, 6), Table{eight[0], sess(7, 6, 7, 8, 10, 11, 12, 13, 14, 15)}, res(api.Unheard, 0, 0))
	wantAsk(t, eight, cmd(7, 9, 7), Table{eight[0], sess(7, 7, 8, 10, 11, 12, 13, 14, 15)}, api.Res{})
	seven := Table{sess(7, 5, 7, 8, 10, 11, 12, 13, 14)}
	wantAsk(t, seven, cmd(7, 9, 5), seven, api.Res{})
}

// P19.3

func wantKeep(t *testing.T, x Table, c api.Cmd, r api.Res, want Table) {
	t.Helper()
	what := fmt.Sprintf("Keep(%d, Seq %d, Ack %d, %v) of %s", c.Sess, c.Seq, c.Ack, r, show(x))
	got := x.Keep(c, r)
	wantTable(t, what, got, want)
	if !got.Valid() {
		t.Errorf("%s: the answer is not valid", what)
	}
}

func TestKeep(t *testing.T) {
	x := Table{sess(3, 0, 1), sess(7, 5, 7, 9), sess(8, 0)}
	for _, c := range []struct {
		seq  int
		kept []int
	}{
		{6, []int{6, 7, 9}}, {8, []int{7, 8, 9}}, {10, []int{7, 9, 10}}, {api.MaxSeq, []int{7, 9, api.MaxSeq}},
	} {
		// Its Ack is not looked at: Ask has done so.
		for _, ack := range []int{0, 5, c.seq - 1} {
			wantKeep(t, x, cmd(7, c.seq, ack), reply(c.seq), Table{x[0], sess(7, 5, c.kept...), x[2]})
		}
	}
	for _, r := range []api.Res{res(api.Value, 3, -4), res(api.Over, 0, 0), res(api.Missed, -1, 1)} {
		wantKeep(t, x, cmd(8, 1, 0), r, Table{x[0], x[1], {No: 8, Kept: []api.Kept{{Seq: 1, Res: r}}}})
	}
	seven := Table{sess(7, 5, 7, 8, 10, 11, 12, 13, 14)}
	wantKeep(t, seven, cmd(7, 9, 5), reply(9), Table{sess(7, 5, 7, 8, 9, 10, 11, 12, 13, 14)})
}

func TestKeepNothing(t *testing.T) {
	r := res(api.Value, 77, 78)
	wantKeep(t, nil, cmd(5, 1, 0), r, nil)
	x := Table{sess(3, 0, 1), sess(7, 5, 7, 9)}
	for _, no := range []int{1, 2, 4, 6, 8, api.MaxSessNo} {
		wantKeep(t, x, cmd(no, 6, 0), r, x)
	}
	for _, seq := range []int{1, 4, 5, 7, 9} {
		wantKeep(t, x, cmd(7, seq, 0), r, x)
	}
	eight := Table{sess(7, 5, 7, 8, 10, 11, 12, 13, 14, 15)}
	for _, seq := range []int{5, 6, 7, 9, 15, 16, api.MaxSeq} {
		wantKeep(t, eight, cmd(7, seq, 0), r, eight)
	}
	wantKeep(t, Table{sess(7, api.MaxSeq)}, cmd(7, api.MaxSeq, 0), r, Table{sess(7, api.MaxSeq)})
}

// Rule 1: each call ends, whatever it is made on and given.
func TestWrongInputs(t *testing.T) {
	numbers := []int{math.MinInt, -1, 0, 1, 6, 1 << 40, math.MaxInt}
	for _, x := range append(validTables(), wrongTables()...) {
		for _, no := range numbers {
			x.Find(no)
			for _, seq := range numbers {
				for _, ack := range numbers {
					c := api.Cmd{Sess: no, Seq: seq, Ack: ack}
					x.Ask(c)
					x.Keep(c, res(seq, no, ack))
				}
			}
		}
	}
}

// P19.4, and the whole: against a plain model.

type modelSess struct {
	ack  int
	kept map[int]api.Res
}

type model map[int]*modelSess

func (m model) ask(c api.Cmd) (api.Res, bool) {
	s := m[c.Sess]
	if s == nil {
		if len(m) == 16 {
			return res(api.Crowded, 0, 0), true
		}
		s = &modelSess{kept: map[int]api.Res{}}
		m[c.Sess] = s
	}
	if c.Ack > s.ack {
		s.ack = c.Ack
	}
	for seq := range s.kept {
		if seq <= s.ack {
			delete(s.kept, seq)
		}
	}
	if c.Seq <= s.ack {
		return res(api.Stale, 0, 0), true
	}
	if r, there := s.kept[c.Seq]; there {
		return r, true
	}
	if len(s.kept) == 8 {
		return res(api.Unheard, 0, 0), true
	}
	return api.Res{}, false
}

func (m model) keep(c api.Cmd, r api.Res) {
	s := m[c.Sess]
	if s == nil || c.Seq <= s.ack || len(s.kept) == 8 {
		return
	}
	if _, there := s.kept[c.Seq]; !there {
		s.kept[c.Seq] = r
	}
}

// table is what the model holds, as a table.
func (m model) table() Table {
	var t Table
	for no, s := range m {
		var list []api.Kept
		for seq, r := range s.kept {
			list = append(list, api.Kept{Seq: seq, Res: r})
		}
		slices.SortFunc(list, func(a, b api.Kept) int { return a.Seq - b.Seq })
		t = append(t, api.Sess{No: no, Ack: s.ack, Kept: list})
	}
	slices.SortFunc(t, func(a, b api.Sess) int { return a.No - b.No })
	return t
}

// feed makes numbers out of bytes, zeros behind their end.
type feed []byte

func (f *feed) upTo(n int) int {
	if len(*f) == 0 {
		return 0
	}
	b := int((*f)[0])
	*f = (*f)[1:]
	return b % n
}

// command is a right command, mostly one near what its session has got to.
func (f *feed) command(m model, sessions int) api.Cmd {
	no := 1 + f.upTo(sessions)
	switch f.upTo(60) {
	case 0:
		no = api.MaxSessNo - f.upTo(2)
	case 1:
		seq := api.MaxSeq - f.upTo(2)
		return cmd(no, seq, seq-1-f.upTo(4))
	}
	ack := 0
	if s := m[no]; s != nil {
		ack = s.ack
	}
	seq := min(max(1, ack-2+f.upTo(14)), api.MaxSeq)
	if f.upTo(4) > 0 {
		return cmd(no, seq, min(seq-1, ack))
	}
	return cmd(no, seq, min(seq-1, max(0, ack-2+f.upTo(8))))
}

// against runs a table and its model side by side, by what the bytes say, and answers how often each kind of answer came.
func against(t *testing.T, b []byte) map[int]int {
	f := feed(b)
	sessions := 1 + f.upTo(20)
	var x Table
	m := model{}
	ran, met := map[[2]int]bool{}, map[int]int{}
	for n := 0; len(f) > 0; n++ {
		c := f.command(m, sessions)
		made, r, over := x.Ask(c)
		wanted, wantOver := m.ask(c)
		if r != wanted || over != wantOver {
			t.Fatalf("Ask(%v) of %s = %v, %v, want %v, %v", c, show(x), r, over, wanted, wantOver)
		}
		x = made
		met[r.Kind]++
		if !over && ran[[2]int{c.Sess, c.Seq}] {
			t.Fatalf("Ask(%v) says a second time that it is to be run", c)
		}
		if !over {
			ran[[2]int{c.Sess, c.Seq}] = true
		} else {
			// Now and then a Keep of something else, which nobody has asked for.
			c = f.command(m, sessions)
		}
		if !over || f.upTo(4) == 0 {
			r := res(api.Value+n%3, n, -n)
			x = x.Keep(c, r)
			m.keep(c, r)
		}
		if show(x) != show(m.table()) || !x.Valid() {
			t.Fatalf("behind %v: valid %v\n got %s\nwant %s", c, x.Valid(), show(x), show(m.table()))
		}
	}
	return met
}

func TestAgainstModel(t *testing.T) {
	rnd := rand.New(rand.NewSource(19))
	met := map[int]int{}
	for range 300 {
		b := make([]byte, rnd.Intn(1000))
		rnd.Read(b)
		for kind, n := range against(t, b) {
			met[kind] += n
		}
	}
	for _, kind := range []int{api.NoRes, api.Value, api.Over, api.Missed, api.Stale, api.Crowded, api.Unheard} {
		if met[kind] < 100 {
			t.Errorf("answers of kind %d: only %d", kind, met[kind])
		}
	}
}

func FuzzAgainstModel(f *testing.F) {
	f.Add([]byte("the results of each session's commands, so that a repeated command is not executed again"))
	f.Fuzz(func(t *testing.T, b []byte) { against(t, b) })
}

// The chapter's example.
func TestExample(t *testing.T) {
	three := res(api.Value, 3, 0)
	a, r, over := Table{}.Ask(cmd(5, 1, 0))
	if over || r != (api.Res{}) {
		t.Error("Ask of the empty table:", r, over)
	}
	b := a.Keep(cmd(5, 1, 0), three)
	same, r, over := b.Ask(cmd(5, 1, 0))
	if !over || r != three {
		t.Error("Ask of the same again:", r, over)
	}
	next, r, over := same.Ask(cmd(5, 2, 1))
	if over || r != (api.Res{}) {
		t.Error("Ask of the next one:", r, over)
	}
	wantTable(t, "the reply to 1 is let go", next, Table{sess(5, 1)})
	if _, r, over := next.Ask(cmd(5, 1, 0)); !over || r != res(api.Stale, 0, 0) {
		t.Error("Ask of the first one again:", r, over)
	}
}
