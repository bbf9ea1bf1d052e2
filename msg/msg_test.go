package msg

import (
	"bytes"
	"math"
	"reflect"
	"slices"
	"strings"
	"testing"

	"synod/api"
	"synod/ballot"
	"synod/pack"
	"synod/value"
)

// chapter is the table of the chapter: what each kind uses.
func chapter() map[int]string {
	return map[int]string{
		1: "Bal Slot", 2: "Bal Slot Low Votes", 3: "Bal", 4: "Bal Slot Val", 5: "Bal Slot Val", 6: "Bal Slot Time", 7: "Bal Time",
		8: "Slot", 9: "Slot Val", 10: "Slot Low Data", 11: "Slot Low", 12: "Slot Low Data", 13: "Cmd", 14: "Cmd Res",
	}
}

func usesField(kind int, field string) bool {
	return slices.Contains(strings.Fields(chapter()[kind]), field)
}

func fieldNames() []string {
	return []string{"Bal", "Slot", "Low", "Time", "Val", "Votes", "Cmd", "Res", "Data"}
}

func slotFromOneOn(kind int) bool { return slices.Contains([]int{1, 2, 4, 5, 8, 9}, kind) }

func noKinds() []int { return []int{math.MinInt, -14, -1, 0, 15, 16, 255, 256, math.MaxInt} }

func put(sess, seq int) api.Cmd {
	return api.Cmd{Sess: sess, Seq: seq, Ack: seq - 1, Op: api.Op{Kind: api.Put, Reg: 2, Re: -3, Im: 4}}
}

func batch(n int) api.Val {
	v := api.Val{Kind: api.Batch}
	for i := range n {
		v.Cmds = append(v.Cmds, put(i+1, i+2))
	}
	return v
}

func stop(next ...int) api.Val { return api.Val{Kind: api.Stop, Next: next} }

func vote(slot int, v api.Val) api.Vote {
	return api.Vote{Slot: slot, Bal: api.Bal{Round: slot, Node: 3}, Val: v}
}

// noops are votes for Noops in slots one behind the other.
func noops(from, n int) []api.Vote {
	var vs []api.Vote
	for i := range n {
		vs = append(vs, api.Vote{Slot: from + i, Bal: api.Bal{Round: 1, Node: 1}})
	}
	return vs
}

// set lays something into a field that isn't zero, and is right where the field is used.
func set(m *api.Msg, field string) {
	switch field {
	case "Bal":
		m.Bal = api.Bal{Round: 300, Node: 4}
	case "Slot":
		m.Slot = 5
	case "Low":
		m.Low = 6
	case "Time":
		m.Time = 7
	case "Val":
		m.Val = stop(1, 2)
	case "Votes":
		m.Votes = []api.Vote{vote(5, api.Val{}), vote(9, batch(2))}
	case "Cmd":
		m.Cmd = api.Cmd{Sess: 8, Seq: 9}
		if m.Kind == api.Request {
			m.Cmd = put(8, 9)
		}
	case "Res":
		m.Res = api.Res{Kind: api.Missed, Re: -1, Im: 2}
	case "Data":
		m.Data = []byte{1, 2, 3}
	}
}

// full is a right message of a kind, in which all that it uses isn't zero.
func full(kind int) api.Msg {
	m := api.Msg{Kind: kind, From: 2, To: 3, Epoch: 4}
	for _, field := range strings.Fields(chapter()[kind]) {
		set(&m, field)
	}
	return m
}

func wantCheck(t *testing.T, m api.Msg, err api.Errno) {
	t.Helper()
	if got := Check(m); got != err {
		t.Errorf("Check(%+v) = %d, want %d", m, got, err)
	}
	b, e := Encode(m)
	if e != err || (len(b) == 0) != (err != api.OK) {
		t.Errorf("Encode(%+v) = %x, %d, want %d", m, b, e, err)
	}
	if err != api.OK {
		return
	}
	if got, e := Decode(b); e != api.OK || !same(got, m) {
		t.Errorf("%+v comes back as %+v, %d", m, got, e)
	}
}

// same tells whether two messages are, nil and empty being one.
func same(a, b api.Msg) bool {
	sameVote := func(x, y api.Vote) bool { return x.Slot == y.Slot && x.Bal == y.Bal && value.Same(x.Val, y.Val) }
	ok := slices.EqualFunc(a.Votes, b.Votes, sameVote) && value.Same(a.Val, b.Val) && bytes.Equal(a.Data, b.Data)
	a.Votes, a.Val, a.Data = nil, api.Val{}, nil
	b.Votes, b.Val, b.Data = nil, api.Val{}, nil
	return ok && reflect.DeepEqual(a, b)
}

// P7.1

func TestCheckVotes(t *testing.T) {
	one := api.Bal{Round: 1, Node: 1}
	top := api.MaxSlot
	for _, x := range []struct {
		name string
		vs   []api.Vote
		from int
		e    api.Errno
	}{
		{"none", nil, 1, api.OK}, {"none", []api.Vote{}, 9, api.OK}, {"none, from anywhere", nil, math.MinInt, api.OK}, {"none, from the end", nil, math.MaxInt, api.OK},
		{"the most", noops(1, 64), 1, api.OK}, {"one more", noops(1, 65), 1, api.ErrMsg}, {"many", noops(1, 1000), 1, api.ErrMsg},
		{"one more, of no ballot", make([]api.Vote, 65), 0, api.ErrMsg},
		{"at from", noops(4, 1), 4, api.OK}, {"below from", noops(3, 1), 4, api.ErrMsg}, {"below from, then not", noops(3, 2), 4, api.ErrMsg}, {"behind from", noops(5, 3), 4, api.OK},
		{"far apart", []api.Vote{vote(4, api.Val{}), vote(1000, api.Val{}), vote(top, api.Val{})}, 1, api.OK},
		{"not rising", []api.Vote{vote(4, api.Val{}), vote(4, api.Val{})}, 1, api.ErrMsg}, {"falling", []api.Vote{vote(5, api.Val{}), vote(4, api.Val{})}, 1, api.ErrMsg}, {"rising, falling", []api.Vote{vote(4, api.Val{}), vote(6, api.Val{}), vote(5, api.Val{})}, 1, api.ErrMsg},
		{"the last slot", noops(top, 1), top, api.OK}, {"behind the last slot", noops(top+1, 1), 1, api.ErrMsg}, {"over the last slot", noops(top, 2), 1, api.ErrMsg}, {"the highest", noops(math.MaxInt, 1), 1, api.ErrMsg},
		{"slot 0 from 0", noops(0, 2), 0, api.OK}, {"slot 0 from 1", noops(0, 1), 1, api.ErrMsg}, {"below 0", noops(-3, 5), -3, api.OK}, {"below 0, from 0", noops(-3, 5), 0, api.ErrMsg},
		{"the lowest", noops(math.MinInt, 2), math.MinInt, api.OK}, {"from the end", noops(top, 1), math.MaxInt, api.ErrMsg}, {"from behind the end", noops(top, 1), top + 1, api.ErrMsg},
		{"no ballot", []api.Vote{{Slot: 4}}, 4, api.ErrBal}, {"a node too high", []api.Vote{{Slot: 4, Bal: api.Bal{Round: 1, Node: 10}}}, 4, api.ErrBal}, {"a round too high", []api.Vote{{Slot: 4, Bal: api.Bal{Round: api.MaxRound + 1, Node: 1}}}, 4, api.ErrBal},
		{"no ballot in a wrong slot", []api.Vote{{Slot: 3}}, 4, api.ErrMsg}, {"no ballot, no value", []api.Vote{{Slot: 4, Val: api.Val{Kind: 9}}}, 4, api.ErrBal},
		{"no value", []api.Vote{{Slot: 4, Bal: one, Val: api.Val{Kind: 9}}}, 4, api.ErrVal}, {"no set", []api.Vote{{Slot: 4, Bal: one, Val: stop()}}, 4, api.ErrSet}, {"no command", []api.Vote{{Slot: 4, Bal: one, Val: api.Val{Kind: 1, Cmds: make([]api.Cmd, 1)}}}, 4, api.ErrCmd}, {"no operation", []api.Vote{{Slot: 4, Bal: one, Val: api.Val{Kind: 1, Cmds: []api.Cmd{{Sess: 1, Seq: 1}}}}}, 4, api.ErrOp},
		{"all kinds of values", []api.Vote{vote(4, api.Val{}), vote(5, batch(8)), vote(6, stop(1, 2, 3, 4, 5, 6, 7))}, 4, api.OK},
		{"the first vote's error", []api.Vote{{Slot: 4, Bal: one, Val: stop()}, {Slot: 3}}, 4, api.ErrSet}, {"the second's", []api.Vote{vote(4, api.Val{}), {Slot: 5}, {Slot: 2}}, 4, api.ErrBal}, {"the second's slot", []api.Vote{vote(4, api.Val{}), {Slot: 4}}, 4, api.ErrMsg},
		{"the last one's", append(noops(4, 63), api.Vote{Slot: 99, Bal: one, Val: stop(0)}), 4, api.ErrSet},
	} {
		if got := CheckVotes(x.vs, x.from); got != x.e {
			t.Errorf("%s: CheckVotes(.., %d) = %d, want %d", x.name, x.from, got, x.e)
		}
	}
}

func TestCheckOfFullAndBareMessages(t *testing.T) {
	for kind := range chapter() {
		wantCheck(t, full(kind), api.OK)
		bare := api.Msg{Kind: kind}
		want := api.OK
		switch {
		case slotFromOneOn(kind):
			want = api.ErrMsg
		case usesField(kind, "Bal"):
			want = api.ErrBal
		case usesField(kind, "Cmd"):
			want = api.ErrCmd
		}
		wantCheck(t, bare, want)
	}
}

func TestCheckOfNoKind(t *testing.T) {
	for _, kind := range noKinds() {
		wantCheck(t, api.Msg{Kind: kind}, api.ErrMsg)
		for other := range chapter() {
			m := full(other)
			m.Kind = kind
			wantCheck(t, m, api.ErrMsg)
		}
	}
}

func TestCheckOfWhatIsNotUsed(t *testing.T) {
	for kind := range chapter() {
		for _, field := range fieldNames() {
			m := full(kind)
			set(&m, field)
			want := api.ErrMsg
			if usesField(kind, field) {
				want = api.OK
			}
			wantCheck(t, m, want)
		}
	}
}

// spoilers make a message with a part of a field that isn't zero, one by one.
func spoilers() map[string][]func(*api.Msg) {
	return map[string][]func(*api.Msg){
		"Bal":   {func(m *api.Msg) { m.Bal.Round = 1 }, func(m *api.Msg) { m.Bal.Node = 1 }, func(m *api.Msg) { m.Bal.Node = -1 }},
		"Slot":  {func(m *api.Msg) { m.Slot = 1 }, func(m *api.Msg) { m.Slot = -1 }},
		"Low":   {func(m *api.Msg) { m.Low = 1 }, func(m *api.Msg) { m.Low = -1 }},
		"Time":  {func(m *api.Msg) { m.Time = 1 }, func(m *api.Msg) { m.Time = -1 }},
		"Val":   {func(m *api.Msg) { m.Val.Kind = 1 }, func(m *api.Msg) { m.Val.Kind = -1 }, func(m *api.Msg) { m.Val.Cmds = make([]api.Cmd, 1) }, func(m *api.Msg) { m.Val.Next = make([]int, 1) }},
		"Votes": {func(m *api.Msg) { m.Votes = make([]api.Vote, 1) }},
		"Cmd":   {func(m *api.Msg) { m.Cmd.Sess = 1 }, func(m *api.Msg) { m.Cmd.Seq = 1 }, func(m *api.Msg) { m.Cmd.Ack = 1 }, func(m *api.Msg) { m.Cmd.Op.Kind = 1 }, func(m *api.Msg) { m.Cmd.Op.Reg = 1 }, func(m *api.Msg) { m.Cmd.Op.To = 1 }, func(m *api.Msg) { m.Cmd.Op.Re = 1 }, func(m *api.Msg) { m.Cmd.Op.Im = 1 }},
		"Res":   {func(m *api.Msg) { m.Res.Kind = 1 }, func(m *api.Msg) { m.Res.Re = 1 }, func(m *api.Msg) { m.Res.Im = -1 }},
		"Data":  {func(m *api.Msg) { m.Data = make([]byte, 1) }, func(m *api.Msg) { m.Data = make([]byte, 2000) }},
	}
}

func TestCheckOfPartsOfWhatIsNotUsed(t *testing.T) {
	for kind := range chapter() {
		for field, ways := range spoilers() {
			for _, spoil := range ways {
				if m := full(kind); !usesField(kind, field) {
					spoil(&m)
					wantCheck(t, m, api.ErrMsg)
				}
			}
		}
	}
}

func TestEmptyListsAreZero(t *testing.T) {
	for kind := range chapter() {
		m := full(kind)
		if !usesField(kind, "Val") {
			m.Val = api.Val{Cmds: []api.Cmd{}, Next: []int{}}
		}
		if !usesField(kind, "Votes") {
			m.Votes = []api.Vote{}
		}
		if !usesField(kind, "Data") {
			m.Data = []byte{}
		}
		wantCheck(t, m, api.OK)
	}
}

func TestCheckOfPlainNumbers(t *testing.T) {
	for kind := range chapter() {
		leastSlot := 0
		if slotFromOneOn(kind) {
			leastSlot = 1
		}
		for _, x := range []struct {
			field       string
			at          func(*api.Msg) *int
			least, most int
		}{
			{"", func(m *api.Msg) *int { return &m.From }, 0, 9},
			{"", func(m *api.Msg) *int { return &m.To }, 0, 9},
			{"", func(m *api.Msg) *int { return &m.Epoch }, 0, 1 << 40},
			{"Slot", func(m *api.Msg) *int { return &m.Slot }, leastSlot, 1 << 40},
			{"Low", func(m *api.Msg) *int { return &m.Low }, 0, 1 << 40},
			{"Time", func(m *api.Msg) *int { return &m.Time }, 0, 1 << 40},
		} {
			if x.field != "" && !usesField(kind, x.field) {
				continue
			}
			for _, n := range []int{math.MinInt, x.least - 1, x.least, x.least + 1, x.most - 1, x.most, x.most + 1, 1 << 50, math.MaxInt} {
				m := full(kind)
				m.Votes = nil
				*x.at(&m) = n
				want := api.ErrMsg
				if n >= x.least && n <= x.most {
					want = api.OK
				}
				wantCheck(t, m, want)
			}
		}
	}
}

func TestCheckOfData(t *testing.T) {
	for _, kind := range []int{api.Offer, api.Part} {
		for n, want := range map[int]api.Errno{0: api.OK, 1: api.OK, 255: api.OK, 256: api.OK, 1023: api.OK, 1024: api.OK, 1025: api.ErrMsg, 70000: api.ErrMsg} {
			m := full(kind)
			m.Data = bytes.Repeat([]byte{200}, n)
			wantCheck(t, m, want)
		}
	}
}

func TestCheckOfBallots(t *testing.T) {
	for kind := range chapter() {
		for _, round := range []int{math.MinInt, -1, 0, 1, api.MaxRound, api.MaxRound + 1, math.MaxInt} {
			for _, node := range []int{math.MinInt, -1, 0, 1, 9, 10, math.MaxInt} {
				m := full(kind)
				m.Bal = api.Bal{Round: round, Node: node}
				want := api.OK
				switch {
				case !usesField(kind, "Bal") && m.Bal != api.Bal{}:
					want = api.ErrMsg
				case usesField(kind, "Bal") && !ballot.Valid(m.Bal):
					want = api.ErrBal
				}
				wantCheck(t, m, want)
			}
		}
	}
}

func TestCheckOfValues(t *testing.T) {
	for _, kind := range []int{api.Accept, api.Voted, api.Have} {
		for _, v := range []api.Val{{}, batch(1), batch(8), stop(9), stop(1, 2, 3, 4, 5, 6, 7), {Kind: 3}, {Kind: -1}, batch(0), batch(9), stop(), stop(2, 1), {Next: []int{1}}, {Kind: 1, Cmds: make([]api.Cmd, 1)}, {Kind: 1, Cmds: []api.Cmd{{Sess: 1, Seq: 1}}}} {
			m := full(kind)
			m.Val = v
			wantCheck(t, m, value.Check(v))
		}
	}
}

func TestCheckOfVotes(t *testing.T) {
	for _, x := range []struct {
		vs []api.Vote
		e  api.Errno
	}{
		{nil, api.OK}, {noops(5, 1), api.OK}, {noops(4, 1), api.ErrMsg}, {noops(5, 64), api.OK}, {noops(5, 65), api.ErrMsg}, {[]api.Vote{vote(5, api.Val{}), vote(5, api.Val{})}, api.ErrMsg},
		{[]api.Vote{vote(7, stop(1)), vote(api.MaxSlot, batch(8))}, api.OK}, {noops(api.MaxSlot+1, 1), api.ErrMsg}, {[]api.Vote{{Slot: 5}}, api.ErrBal}, {[]api.Vote{vote(5, stop())}, api.ErrSet}, {[]api.Vote{vote(5, batch(0))}, api.ErrVal},
	} {
		m := full(api.Promise)
		m.Votes = x.vs
		wantCheck(t, m, x.e)
	}
}

func TestCheckOfRequests(t *testing.T) {
	for _, c := range []api.Cmd{put(1, 1), put(api.MaxSessNo, api.MaxSeq), {Sess: 1, Seq: 1, Op: api.Op{Kind: api.Get}}, {}, put(0, 1), put(1, 0), put(api.MaxSessNo+1, 1), put(1, api.MaxSeq+1), {Sess: 1, Seq: 2, Ack: 2, Op: api.Op{Kind: api.Get}}, {Sess: 1, Seq: 1}, {Sess: 1, Seq: 1, Op: api.Op{Kind: 8}}, {Seq: 1, Op: api.Op{Kind: 8}}} {
		m := full(api.Request)
		m.Cmd = c
		wantCheck(t, m, value.CheckCmd(c))
	}
}

func TestCheckOfReplies(t *testing.T) {
	edges := []int{math.MinInt, -1, 0, 1, api.MaxSessNo, api.MaxSessNo + 1, api.MaxSeq, api.MaxSeq + 1, math.MaxInt}
	for _, sess := range edges {
		for _, seq := range edges {
			m := full(api.Reply)
			m.Cmd = api.Cmd{Sess: sess, Seq: seq}
			want := api.ErrCmd
			if sess >= 1 && sess <= 1<<30 && seq >= 1 && seq <= 1<<40 {
				want = api.OK
			}
			wantCheck(t, m, want)
		}
	}
	for _, c := range []api.Cmd{{Sess: 1, Seq: 2, Ack: 1}, {Sess: 1, Seq: 2, Ack: -1}, put(1, 1), {Sess: 1, Seq: 1, Op: api.Op{Kind: api.Get}}, {Sess: 1, Seq: 1, Op: api.Op{Kind: 99}}, {Sess: 1, Seq: 1, Op: api.Op{Im: 1}}, {Sess: 1, Seq: 1, Op: api.Op{Reg: 1}}, {Sess: 1, Seq: 1, Op: api.Op{To: 1}}, {Sess: 1, Seq: 1, Op: api.Op{Re: 1}}} {
		m := full(api.Reply)
		m.Cmd = c
		wantCheck(t, m, api.ErrCmd)
	}
}

func TestCheckOfResults(t *testing.T) {
	parts := []int{math.MinInt, -api.MaxPart - 1, -api.MaxPart, -1, 0, 1, api.MaxPart, api.MaxPart + 1, math.MaxInt}
	for _, kind := range []int{math.MinInt, -1, 0, 1, 2, 3, 4, 5, 6, 7, 8, 9, 10, math.MaxInt} {
		for _, re := range parts {
			for _, im := range parts {
				m := full(api.Reply)
				m.Res = api.Res{Kind: kind, Re: re, Im: im}
				want := api.ErrMsg
				if kind >= 1 && kind <= 9 && re >= -1<<20 && re <= 1<<20 && im >= -1<<20 && im <= 1<<20 {
					want = api.OK
				}
				wantCheck(t, m, want)
			}
		}
	}
}

func TestTheErrorNamedFirstIsTheAnswer(t *testing.T) {
	noBal, bal := api.Bal{}, api.Bal{Round: 1, Node: 1}
	for _, x := range []struct {
		m api.Msg
		e api.Errno
	}{
		{api.Msg{Kind: api.Accept, Bal: noBal, Slot: 0, Val: stop()}, api.ErrMsg},
		{api.Msg{Kind: api.Accept, Bal: noBal, Slot: 1, Val: stop(), Low: 1}, api.ErrMsg},
		{api.Msg{Kind: api.Accept, Bal: noBal, Slot: 1, Val: stop(), From: 10}, api.ErrMsg},
		{api.Msg{Kind: api.Accept, Bal: noBal, Slot: 1, Val: stop()}, api.ErrBal},
		{api.Msg{Kind: api.Accept, Bal: bal, Slot: 1, Val: stop()}, api.ErrSet},
		{api.Msg{Kind: api.Promise, Bal: noBal, Slot: 4, Votes: noops(3, 1)}, api.ErrBal},
		{api.Msg{Kind: api.Promise, Bal: noBal, Slot: 4, Votes: make([]api.Vote, 65)}, api.ErrBal},
		{api.Msg{Kind: api.Promise, Bal: noBal, Slot: 4, Low: -1, Votes: []api.Vote{vote(4, stop())}}, api.ErrMsg},
		{api.Msg{Kind: api.Promise, Bal: bal, Slot: 4, Votes: []api.Vote{vote(4, stop())}}, api.ErrSet},
		{api.Msg{Kind: api.Request, Cmd: api.Cmd{}, To: -1}, api.ErrMsg},
		{api.Msg{Kind: api.Reply, Cmd: api.Cmd{}, Res: api.Res{}}, api.ErrCmd},
		{api.Msg{Kind: api.Reply, Cmd: api.Cmd{}, Res: api.Res{}, Epoch: -1}, api.ErrMsg},
		{api.Msg{Kind: api.Reply, Cmd: api.Cmd{Sess: 1, Seq: 1}, Res: api.Res{}}, api.ErrMsg},
		{api.Msg{Kind: api.Nack, Bal: noBal, Val: stop()}, api.ErrMsg},
		{api.Msg{Kind: api.Nack, Bal: noBal, Cmd: put(1, 1)}, api.ErrMsg},
	} {
		wantCheck(t, x.m, x.e)
	}
}

// P7.2

func TestBytesOfEveryKind(t *testing.T) {
	head := func(kind byte, rest ...byte) []byte { return append([]byte{1, kind, 1, 2, 1, 3, 1, 4}, rest...) }
	bal := []byte{2, 1, 44, 1, 4}
	stops := []byte{1, 2, 0, 1, 2, 1, 1, 1, 2}
	cmd1 := []byte{1, 2, 1, 4, 1, 2, 1, 4, 1, 4, 0, 1, 5, 1, 8}
	cmd2 := []byte{1, 4, 1, 6, 1, 4, 1, 4, 1, 4, 0, 1, 5, 1, 8}
	votes := slices.Concat([]byte{1, 2, 1, 5, 1, 5, 1, 3, 0, 0, 0, 1, 9, 1, 9, 1, 3, 1, 1, 1, 2}, cmd1, cmd2, []byte{0})
	for kind, want := range map[int][]byte{
		api.Prepare: slices.Concat(head(1), bal, []byte{1, 5}),
		api.Promise: slices.Concat(head(2), bal, []byte{1, 5, 1, 6}, votes),
		api.Nack:    slices.Concat(head(3), bal),
		api.Accept:  slices.Concat(head(4), bal, []byte{1, 5}, stops),
		api.Voted:   slices.Concat(head(5), bal, []byte{1, 5}, stops),
		api.Beat:    slices.Concat(head(6), bal, []byte{1, 5, 1, 7}),
		api.Grant:   slices.Concat(head(7), bal, []byte{1, 7}),
		api.Want:    head(8, 1, 5),
		api.Have:    slices.Concat(head(9, 1, 5), stops),
		api.Offer:   head(10, 1, 5, 1, 6, 1, 3, 1, 2, 3),
		api.Pull:    head(11, 1, 5, 1, 6),
		api.Part:    head(12, 1, 5, 1, 6, 1, 3, 1, 2, 3),
		api.Request: head(13, 1, 16, 1, 18, 1, 16, 1, 4, 1, 4, 0, 1, 5, 1, 8),
		api.Reply:   head(14, 1, 16, 1, 18, 0, 0, 0, 0, 0, 0, 1, 6, 1, 1, 1, 4),
	} {
		if got, e := Encode(full(kind)); e != api.OK || !bytes.Equal(got, want) {
			t.Errorf("Encode of kind %d = %x, %d, want %x", kind, got, e, want)
		}
		if got, e := Decode(want); e != api.OK || !same(got, full(kind)) {
			t.Errorf("Decode of kind %d = %+v, %d", kind, got, e)
		}
	}
}

func TestTheLongestMessageIsRead(t *testing.T) {
	part := api.Op{Kind: api.Take, Reg: 7, To: 7, Re: -api.MaxPart, Im: api.MaxPart}
	cmd := api.Cmd{Sess: api.MaxSessNo, Seq: api.MaxSeq, Ack: api.MaxSeq - 1, Op: part}
	m := api.Msg{Kind: api.Promise, From: 9, To: 9, Epoch: api.MaxRound, Bal: api.Bal{Round: api.MaxRound, Node: 9}, Slot: api.MaxSlot - 63, Low: api.MaxSlot}
	for i := range 64 {
		v := api.Val{Kind: api.Batch, Cmds: slices.Repeat([]api.Cmd{cmd}, 8)}
		m.Votes = append(m.Votes, api.Vote{Slot: api.MaxSlot - 63 + i, Bal: m.Bal, Val: v})
	}
	wantCheck(t, m, api.OK)
	if b, _ := Encode(m); len(b) > api.MaxMsg {
		t.Errorf("%d bytes", len(b))
	}
}

func wantDecode(t *testing.T, b []byte, err api.Errno) {
	t.Helper()
	if m, e := Decode(b); e != err || !same(m, api.Msg{}) {
		t.Errorf("Decode(%x) = %+v, %d, want %d", b, m, e, err)
	}
}

func TestDecodeOfTooManyBytes(t *testing.T) {
	for _, first := range []byte{0, 9, 255} {
		wantDecode(t, bytes.Repeat([]byte{first}, api.MaxMsg+1), api.ErrBig)
	}
	wantDecode(t, bytes.Repeat([]byte{9}, api.MaxMsg), api.ErrForm)
	wantDecode(t, make([]byte, api.MaxMsg), api.ErrMsg)
	b, _ := Encode(full(api.Want))
	for n, want := range map[int]api.Errno{api.MaxMsg - len(b): api.ErrTrail, api.MaxMsg + 1 - len(b): api.ErrBig} {
		wantDecode(t, append(slices.Clone(b), make([]byte, n)...), want)
	}
}

func TestDecodeOfCutAndLongBytes(t *testing.T) {
	for kind := range chapter() {
		b, _ := Encode(full(kind))
		for n := range b {
			wantDecode(t, b[:n], api.ErrShort)
		}
		wantDecode(t, append(b, 0), api.ErrTrail)
		wantDecode(t, append(b, 9), api.ErrTrail)
		wantDecode(t, append(b, b...), api.ErrTrail)
	}
}

// nums are plain numbers as they are written.
func nums(ns ...int) []byte {
	w := pack.NewWriter()
	for _, n := range ns {
		w.Num(uint64(n))
	}
	return w.Bytes()
}

func TestDecodeOfTheHead(t *testing.T) {
	for _, kind := range []int{0, 15, 16, 255, 256, 1 << 50} {
		wantDecode(t, nums(kind, 0, 0, 0), api.ErrMsg)
		wantDecode(t, nums(kind, 1<<50, 1<<50, 1<<50), api.ErrMsg)
		wantDecode(t, append(nums(kind, 1, 1, 1), 9, 9, 9), api.ErrMsg)
		for n := 1; n < 4; n++ {
			wantDecode(t, nums([]int{kind, 1, 1, 1}[:n]...), api.ErrShort)
		}
		wantDecode(t, append(nums(kind, 0, 0), 9), api.ErrForm)
		wantDecode(t, append(nums(kind, 0, 0), 1, 0), api.ErrForm)
		for i := range 4 {
			head := []int{kind, 0, 0, 0}
			head[i] = 1<<50 + 1
			wantDecode(t, nums(head...), api.ErrBig)
			head[i] = -1
			wantDecode(t, nums(head...), api.ErrBig)
		}
	}
}

// plain is a right message of a kind as its plain numbers and what follows them.
type plain struct {
	kind int
	nums []int
	rest []byte
}

// plains are messages of all kinds with plain numbers; those of a vote among them.
func plains() []plain {
	noop := []byte{0, 0, 0}
	return []plain{
		{api.Prepare, []int{1, 1, 1}, nil}, {api.Promise, []int{1, 1, 1, 1}, []byte{0}}, {api.Promise, []int{1, 1, 1, 1, 1, 1, 1, 1}, noop}, {api.Nack, []int{1, 1}, nil}, {api.Accept, []int{1, 1, 1}, noop}, {api.Voted, []int{1, 1, 1}, noop}, {api.Beat, []int{1, 1, 1, 1}, nil},
		{api.Grant, []int{1, 1, 1}, nil}, {api.Want, []int{1}, nil}, {api.Have, []int{1}, noop}, {api.Offer, []int{1, 1}, []byte{0}}, {api.Pull, []int{1, 1}, nil}, {api.Part, []int{1, 1}, []byte{0}},
	}
}

func TestDecodeOfPlainNumbers(t *testing.T) {
	for _, p := range plains() {
		whole := append([]int{p.kind, 1, 1, 1}, p.nums...)
		if m, e := Decode(append(nums(whole...), p.rest...)); e != api.OK || m.Kind != p.kind {
			t.Errorf("%v: %+v, %d", p, m, e)
		}
		for i := 1; i < len(whole); i++ {
			if p.kind == api.Promise && i == 8 {
				continue // the number of votes
			}
			changed := slices.Clone(whole)
			changed[i] = 1 << 50
			want := api.ErrMsg
			ofBal := usesField(p.kind, "Bal") && (i == 4 || i == 5)
			if ofBal || i == 10 || i == 11 {
				want = api.ErrBal
			}
			wantDecode(t, append(nums(changed...), p.rest...), want)
			wantDecode(t, append(append(nums(changed...), p.rest...), 0), api.ErrTrail)
			changed[i] = 1<<50 + 1
			wantDecode(t, append(nums(changed...), p.rest...), api.ErrBig)
			wantDecode(t, nums(changed[:i+1]...), api.ErrBig)
		}
	}
}

func TestDecodeReadsCountsByTheirMost(t *testing.T) {
	promise := nums(2, 1, 1, 1, 1, 1, 1, 1)
	var votes []byte
	for i := range 65 {
		votes = slices.Concat(votes, nums(i+1, 1, 1), []byte{0, 0, 0})
	}
	if m, e := Decode(slices.Concat(promise, nums(64), votes[:64*9])); e != api.OK || len(m.Votes) != 64 {
		t.Errorf("64 votes: %d, %d", len(m.Votes), e)
	}
	wantDecode(t, slices.Concat(promise, nums(65), votes), api.ErrBig)
	wantDecode(t, slices.Concat(promise, nums(65)), api.ErrBig)
	wantDecode(t, slices.Concat(promise, nums(64)), api.ErrShort)
	wantDecode(t, slices.Concat(promise, nums(1, 1, 1, 1), []byte{1, 3, 0, 0}), api.ErrBig)
	wantDecode(t, slices.Concat(promise, nums(1, 1, 1, 1), []byte{1, 2, 0, 0}), api.ErrSet)
	for _, kind := range []int{api.Offer, api.Part} {
		part := nums(kind, 1, 1, 1, 1, 1)
		wantDecode(t, append(part, pack.NewWriter().Text(make([]byte, 1025)).Bytes()...), api.ErrBig)
		wantDecode(t, append(part, nums(1025)...), api.ErrBig)
		wantDecode(t, append(part, nums(1024)...), api.ErrShort)
		if m, e := Decode(append(part, pack.NewWriter().Text(make([]byte, 1024)).Bytes()...)); e != api.OK || len(m.Data) != 1024 {
			t.Errorf("1024 bytes: %d, %d", len(m.Data), e)
		}
	}
	for _, kind := range []int{api.Accept, api.Voted} {
		start := nums(kind, 1, 1, 1, 1, 1, 1)
		wantDecode(t, append(start, 1, 3, 0, 0), api.ErrBig)
		wantDecode(t, append(start, 0, 1, 9), api.ErrBig)
		wantDecode(t, append(start, 1, 2, 0, 1, 8), api.ErrBig)
		wantDecode(t, append(start, 1, 2, 0, 1, 1, 1, 10), api.ErrBig)
		wantDecode(t, append(start, 1, 2, 0, 1, 2, 1, 9, 1, 9), api.ErrSet)
	}
}

func TestDecodeOfCommandsAndResults(t *testing.T) {
	ints := func(kind int, ns ...int) []byte {
		w := pack.NewWriter().Num(uint64(kind)).Num(0).Num(0).Num(0)
		for _, n := range ns {
			w.Int(n)
		}
		return w.Bytes()
	}
	wantDecode(t, ints(api.Request, -1, 1, 0, 1, 0, 0, 0, 0), api.ErrCmd)
	wantDecode(t, ints(api.Request, 1, 1, 1, 1, 0, 0, 0, 0), api.ErrCmd)
	wantDecode(t, ints(api.Request, 1, 1, 0, -1, 0, 0, 0, 0), api.ErrOp)
	wantDecode(t, ints(api.Request, 1, 1, 0, 2, 0, 0, math.MinInt, 0), api.ErrOp)
	wantDecode(t, ints(api.Request, 1, 1, 0, 2, 0, 0, 0), api.ErrShort)
	wantDecode(t, ints(api.Request, 1, 1, 0, 2, 0, 0, 0, 0, 0), api.ErrTrail)
	wantDecode(t, ints(api.Reply, 1, 2, 1, 0, 0, 0, 0, 0, 1, 0, 0), api.ErrCmd)
	wantDecode(t, ints(api.Reply, 1, 1, 0, 1, 0, 0, 0, 0, 1, 0, 0), api.ErrCmd)
	wantDecode(t, ints(api.Reply, 1, 1, 0, 0, 0, 0, 0, 0, 0, 0, 0), api.ErrMsg)
	wantDecode(t, ints(api.Reply, 1, 1, 0, 0, 0, 0, 0, 0, -1, 0, 0), api.ErrMsg)
	wantDecode(t, ints(api.Reply, 1, 1, 0, 0, 0, 0, 0, 0, 9, api.MaxPart+1, 0), api.ErrMsg)
	wantDecode(t, ints(api.Reply, 1, 1, 0, 0, 0, 0, 0, 0, 9, 0, math.MinInt), api.ErrMsg)
	want := api.Msg{Kind: api.Reply, Cmd: api.Cmd{Sess: 1, Seq: 2}, Res: api.Res{Kind: 9, Re: -5, Im: 6}}
	if m, e := Decode(ints(api.Reply, 1, 2, 0, 0, 0, 0, 0, 0, 9, -5, 6)); e != api.OK || !same(m, want) {
		t.Errorf("%+v, %d", m, e)
	}
}

func TestDecodeKeepsNothing(t *testing.T) {
	for _, kind := range []int{api.Promise, api.Accept, api.Part} {
		b, _ := Encode(full(kind))
		room := append(slices.Clone(b), 7, 7)
		m, e := Decode(room[:len(b)])
		if e != api.OK || !bytes.Equal(room, append(slices.Clone(b), 7, 7)) {
			t.Fatalf("Decode changed what it was handed: %x, %d", room, e)
		}
		clear(room)
		if !same(m, full(kind)) {
			t.Errorf("the message became %+v", m)
		}
	}
}

// FuzzDecode holds bytes of any kind against what Encode makes of what they are read as.
func FuzzDecode(f *testing.F) {
	for kind := range chapter() {
		b, _ := Encode(full(kind))
		f.Add(b)
	}
	for _, p := range plains() {
		f.Add(slices.Concat(nums(p.kind, 1, 1, 1), nums(p.nums...), p.rest))
	}
	f.Add([]byte{0, 0, 0, 0})
	f.Fuzz(func(t *testing.T, b []byte) {
		m, e := Decode(b)
		if e != api.OK {
			if !same(m, api.Msg{}) {
				t.Errorf("Decode(%x) = %+v, %d", b, m, e)
			}
			return
		}
		if got, e := Encode(m); e != api.OK || !bytes.Equal(got, b) {
			t.Errorf("%x is read as %+v, and written as %x, %d", b, m, got, e)
		}
	})
}

// P7.3

// everything is a message with all fields, as none is right.
func everything() api.Msg {
	m := api.Msg{Kind: -3, From: 11, To: -1, Epoch: math.MaxInt}
	for _, field := range fieldNames() {
		set(&m, field)
	}
	m.Val = api.Val{Kind: 9, Cmds: batch(2).Cmds, Next: []int{3, 1}}
	m.Votes = []api.Vote{{Slot: -1, Bal: api.Bal{Round: 7, Node: 8}, Val: m.Val}, vote(3, stop(5, 6)), vote(2, batch(1))}
	m.Votes[0].Val = value.Clone(m.Val)
	return m
}

func TestClone(t *testing.T) {
	for kind := range chapter() {
		if got := Clone(full(kind)); !same(got, full(kind)) {
			t.Errorf("Clone(%+v) = %+v", full(kind), got)
		}
	}
	if got := Clone(everything()); !same(got, everything()) {
		t.Errorf("Clone = %+v", got)
	}
	if got := Clone(api.Msg{}); !same(got, api.Msg{}) {
		t.Errorf("Clone of the zero message = %+v", got)
	}
}

// scribble overwrites all lists of a message, to the end of their room.
func scribble(m api.Msg) {
	vals := []api.Val{m.Val}
	for _, v := range m.Votes {
		vals = append(vals, v.Val)
	}
	for _, v := range vals {
		clear(v.Cmds[:cap(v.Cmds)])
		clear(v.Next[:cap(v.Next)])
	}
	clear(m.Votes[:cap(m.Votes)])
	clear(m.Data[:cap(m.Data)])
}

func TestCloneIsNewMemory(t *testing.T) {
	m := everything()
	c := Clone(m)
	scribble(m)
	if !same(c, everything()) {
		t.Errorf("the clone became %+v", c)
	}
	m = everything()
	scribble(Clone(m))
	if !same(m, everything()) {
		t.Errorf("what was cloned became %+v", m)
	}
}

func TestListsOfACloneShareNothing(t *testing.T) {
	shared := stop(1, 2)
	m := api.Msg{Kind: api.Promise, Val: shared, Votes: []api.Vote{vote(1, shared), vote(2, shared)}}
	c := Clone(m)
	c.Val.Next[0] = 7
	c.Votes[0].Val.Next[0] = 8
	if c.Votes[1].Val.Next[0] != 1 || c.Votes[0].Val.Next[0] != 8 || c.Val.Next[0] != 7 || shared.Next[0] != 1 {
		t.Errorf("lists of one clone meet: %+v", c)
	}
}

func TestCallsChangeNothing(t *testing.T) {
	for kind := range chapter() {
		m := full(kind)
		Check(m)
		Encode(m)
		Clone(m)
		CheckVotes(m.Votes, m.Slot)
		if !same(m, full(kind)) {
			t.Errorf("what was handed in became %+v", m)
		}
	}
}

// The examples of the chapter.

func TestExamples(t *testing.T) {
	b, e := Encode(api.Msg{Kind: api.Want, From: 2, To: 3, Slot: 5})
	if want := []byte{1, 8, 1, 2, 1, 3, 0, 1, 5}; e != api.OK || !bytes.Equal(b, want) {
		t.Errorf("Encode = %x, %d", b, e)
	}
	wantDecode(t, nil, api.ErrShort)
	wantDecode(t, []byte{0, 0, 0, 0}, api.ErrMsg)
}
