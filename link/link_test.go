package link

import (
	"bytes"
	"encoding/binary"
	"fmt"
	"math"
	"math/rand"
	"slices"
	"strings"
	"testing"

	"synod/api"
)

// nums is numbers as layer 1 writes them.
func nums(us ...int) []byte {
	var all []byte
	for _, u := range us {
		b := bytes.TrimLeft(binary.BigEndian.AppendUint64(nil, uint64(u)), "\x00")
		all = append(append(all, byte(len(b))), b...)
	}
	return all
}

// mail is the frame of a message.
func mail(life, number, oldest int, data string) []byte {
	return append(nums(1, life, number, oldest, len(data)), data...)
}

// ack is the frame that acknowledges a message.
func ack(life, number int) []byte { return nums(2, life, number) }

// tell is frames as a text.
func tell(fs [][]byte) string {
	var all []string
	for _, f := range fs {
		all = append(all, fmt.Sprintf("%x", f))
	}
	return strings.Join(all, " ")
}

func wantSend(t *testing.T, l *Link, data string, want api.Errno) {
	t.Helper()
	if got := l.Send([]byte(data)); got != want {
		t.Errorf("Send of %d bytes = %d, want %d", len(data), got, want)
	}
}

// sendAll sends a message of one letter for each letter.
func sendAll(t *testing.T, l *Link, letters string) {
	t.Helper()
	for _, c := range letters {
		wantSend(t, l, string(c), api.OK)
	}
}

func wantOut(t *testing.T, l *Link, now int, want ...[]byte) {
	t.Helper()
	if got := l.Out(now); tell(got) != tell(want) {
		t.Errorf("Out(%d) = %s, want %s", now, tell(got), tell(want))
	}
}

// wantIn asks that a frame hands out a message.
func wantIn(t *testing.T, l *Link, frame []byte, want string) {
	t.Helper()
	if got, ok, e := l.In(frame); string(got) != want || !ok || e != api.OK {
		t.Errorf("In(%x) = %q, %v, %d, want %q", frame, got, ok, e, want)
	}
}

// wantNothing asks that a frame hands out nothing, with that error.
func wantNothing(t *testing.T, l *Link, frame []byte, want api.Errno) {
	t.Helper()
	if got, ok, e := l.In(frame); len(got) != 0 || ok || e != want {
		t.Errorf("In(%x) = %q, %v, %d, want nothing and %d", frame, got, ok, e, want)
	}
}

func wantWaiting(t *testing.T, l *Link, want int) {
	t.Helper()
	if got := l.Waiting(); got != want {
		t.Errorf("%d wait, want %d", got, want)
	}
}

// P13.1: New.

func TestNewLife(t *testing.T) {
	for boot, want := range map[int]int{
		math.MinInt: 1, -1: 1, 0: 1, 1: 1, 2: 2, 300: 300,
		1<<40 - 1: 1<<40 - 1, 1 << 40: 1 << 40, 1<<40 + 1: 1 << 40, math.MaxInt: 1 << 40,
	} {
		l := New(boot, 5)
		wantSend(t, l, "m", api.OK)
		wantOut(t, l, 0, mail(want, 1, 1, "m"))
		// It is in that life for acknowledgements, too.
		if want < 1<<40 {
			wantNothing(t, l, ack(want+1, 1), api.OK)
		}
		wantWaiting(t, l, 1)
		wantNothing(t, l, ack(want, 1), api.OK)
		wantWaiting(t, l, 0)
	}
}

func TestNewRetry(t *testing.T) {
	for retry, want := range map[int]int{
		math.MinInt: 1, -1: 1, 0: 1, 1: 1, 2: 2, 10: 10,
		1<<20 - 1: 1<<20 - 1, 1 << 20: 1 << 20, 1<<20 + 1: 1 << 20, math.MaxInt: 1 << 20,
	} {
		l := New(1, retry)
		wantSend(t, l, "m", api.OK)
		wantOut(t, l, 0, mail(1, 1, 1, "m"))
		wantOut(t, l, want-1)
		wantOut(t, l, want, mail(1, 1, 1, "m"))
	}
}

func TestNewIsEmpty(t *testing.T) {
	l := New(1, 1)
	wantWaiting(t, l, 0)
	wantOut(t, l, 0)
	wantOut(t, l, 100)
}

// P13.2: Send.

func TestSend(t *testing.T) {
	l := New(7, 10)
	sendAll(t, l, "abc")
	wantSend(t, l, "", api.OK)
	wantWaiting(t, l, 4)
	wantOut(t, l, 0, mail(7, 1, 1, "a"), mail(7, 2, 1, "b"), mail(7, 3, 1, "c"), mail(7, 4, 1, ""))
}

func TestSendBig(t *testing.T) {
	l := New(1, 10)
	most := strings.Repeat("x", 65536-64)
	wantSend(t, l, most+"y", api.ErrBig)
	wantWaiting(t, l, 0)
	wantSend(t, l, most, api.OK)
	wantOut(t, l, 0, mail(1, 1, 1, most))
	wantIn(t, New(1, 10), mail(1, 1, 1, most), most)
	if n := len(mail(1<<40, 1<<40, 1<<40, most)); n > api.MaxMsg {
		t.Errorf("the longest frame has %d bytes", n)
	}
}

func TestSendQueue(t *testing.T) {
	l := New(1, 10)
	for i := range 32 {
		wantSend(t, l, fmt.Sprint(i+1), api.OK)
	}
	wantSend(t, l, "33", api.ErrQueue)
	// What is too long is so ahead of the queue's being full.
	wantSend(t, l, strings.Repeat("x", api.MaxMsg-63), api.ErrBig)
	wantWaiting(t, l, 32)
	// Not how many wait counts, but how far below the oldest one is.
	for n := 2; n <= 32; n++ {
		wantNothing(t, l, ack(1, n), api.OK)
	}
	wantWaiting(t, l, 1)
	wantSend(t, l, "33", api.ErrQueue)
	wantNothing(t, l, ack(1, 1), api.OK)
	wantWaiting(t, l, 0)
	// What was refused has no number: the next one is 33.
	wantSend(t, l, "33", api.OK)
	wantOut(t, l, 0, mail(1, 33, 33, "33"))
}

func TestSendQueueMoves(t *testing.T) {
	l := New(1, 10)
	for range 32 {
		wantSend(t, l, "m", api.OK)
	}
	wantNothing(t, l, ack(1, 1), api.OK)
	wantNothing(t, l, ack(1, 2), api.OK)
	wantSend(t, l, "33", api.OK)
	wantSend(t, l, "34", api.OK)
	wantSend(t, l, "35", api.ErrQueue)
	wantWaiting(t, l, 32)
	wantNothing(t, l, ack(1, 4), api.OK)
	wantSend(t, l, "35", api.ErrQueue)
	wantWaiting(t, l, 31)
	// With the third one gone, the fifth is the oldest.
	wantNothing(t, l, ack(1, 3), api.OK)
	wantSend(t, l, "35", api.OK)
	wantSend(t, l, "36", api.OK)
	wantSend(t, l, "37", api.ErrQueue)
}

// P13.3: Out.

func TestOutRetry(t *testing.T) {
	l := New(2, 10)
	wantSend(t, l, "a", api.OK)
	a, b := mail(2, 1, 1, "a"), mail(2, 2, 1, "b")
	wantOut(t, l, 100, a)
	wantOut(t, l, 100)
	wantSend(t, l, "b", api.OK)
	wantOut(t, l, 105, b)
	wantOut(t, l, 109)
	wantOut(t, l, 110, a)
	wantOut(t, l, 114)
	wantOut(t, l, 119, b)
	wantOut(t, l, 120, a)
	wantOut(t, l, 1000, a, b)
	wantOut(t, l, 1009)
	wantOut(t, l, 1010, a, b)
}

// A clock that has gone back: what was sent at a later time is sent again, and counts from then on.
func TestOutBack(t *testing.T) {
	l := New(1, 10)
	wantSend(t, l, "a", api.OK)
	a := mail(1, 1, 1, "a")
	wantOut(t, l, 50, a)
	wantOut(t, l, 49, a)
	wantOut(t, l, 49)
	wantOut(t, l, 50)
	wantOut(t, l, 58)
	wantOut(t, l, 59, a)
	wantOut(t, l, -5, a)
	wantOut(t, l, 4)
	wantOut(t, l, 5, a)
}

func TestOutFarTimes(t *testing.T) {
	l := New(1, 10)
	wantSend(t, l, "a", api.OK)
	a := mail(1, 1, 1, "a")
	wantOut(t, l, math.MinInt, a)
	wantOut(t, l, math.MinInt)
	wantOut(t, l, math.MinInt+9)
	wantOut(t, l, math.MinInt+10, a)
	wantOut(t, l, math.MaxInt, a)
	wantOut(t, l, math.MaxInt)
	wantOut(t, l, math.MaxInt-1, a)
	wantOut(t, l, math.MinInt, a)
	wantOut(t, l, 0, a)
	wantOut(t, l, math.MaxInt, a)
}

// A message that was never sent is sent at once, also at the time 0 and below.
func TestOutFirst(t *testing.T) {
	for _, now := range []int{math.MinInt, -1, 0, 1, math.MaxInt} {
		l := New(1, api.MaxLease)
		wantSend(t, l, "a", api.OK)
		wantOut(t, l, now, mail(1, 1, 1, "a"))
	}
}

func TestOutOldest(t *testing.T) {
	l := New(4, 10)
	sendAll(t, l, "abcd")
	wantNothing(t, l, ack(4, 2), api.OK)
	wantOut(t, l, 0, mail(4, 1, 1, "a"), mail(4, 3, 1, "c"), mail(4, 4, 1, "d"))
	// The oldest one is that which waits when the frame is sent, not when the message came.
	wantNothing(t, l, ack(4, 1), api.OK)
	wantOut(t, l, 10, mail(4, 3, 3, "c"), mail(4, 4, 3, "d"))
	wantNothing(t, l, ack(4, 3), api.OK)
	wantSend(t, l, "e", api.OK)
	wantOut(t, l, 11, mail(4, 5, 4, "e"))
	wantOut(t, l, 20, mail(4, 4, 4, "d"))
}

func TestOutAcksFirst(t *testing.T) {
	l := New(2, 10)
	wantSend(t, l, "x", api.OK)
	wantIn(t, l, mail(9, 3, 1, "c"), "c")
	wantIn(t, l, mail(9, 1, 1, "a"), "a")
	wantNothing(t, l, mail(9, 3, 1, "c"), api.OK)
	wantOut(t, l, 0, ack(9, 3), ack(9, 1), ack(9, 3), mail(2, 1, 1, "x"))
	wantOut(t, l, 0)
	wantNothing(t, l, mail(9, 3, 1, "c"), api.OK)
	wantIn(t, l, mail(9, 2, 1, "b"), "b")
	wantOut(t, l, 5, ack(9, 3), ack(9, 2))
	wantOut(t, l, 10, mail(2, 1, 1, "x"))
}

// P13.4: In. First, what is no frame.

func TestInWrong(t *testing.T) {
	long := strings.Repeat("x", api.MaxMsg)
	cat := func(parts ...[]byte) []byte { return bytes.Join(parts, nil) }
	for name, x := range map[string]struct {
		frame []byte
		want  api.Errno
	}{
		"nothing":                     {nil, api.ErrShort},
		"an empty list":               {[]byte{}, api.ErrShort},
		"a kind alone":                {nums(1), api.ErrShort},
		"no kind alone":               {nums(0), api.ErrShort},
		"another kind":                {nums(3, 1, 1), api.ErrBig},
		"another kind alone":          {nums(3), api.ErrBig},
		"a kind beyond all":           {nums(-1), api.ErrBig},
		"no kind's form":              {[]byte{9}, api.ErrForm},
		"a kind in another form":      {cat([]byte{1, 0}, nums(1, 1)), api.ErrForm},
		"half a kind":                 {[]byte{1}, api.ErrShort},
		"no number":                   {nums(2, 1), api.ErrShort},
		"half a number":               {cat(nums(2, 1), []byte{2, 1}), api.ErrShort},
		"a life too high":             {nums(2, 1<<40+1, 1), api.ErrBig},
		"a life too high, cut":        {nums(2, 1<<40+1), api.ErrBig},
		"a number too high":           {nums(2, 1, 1<<40+1), api.ErrBig},
		"a life in another form":      {cat(nums(2), []byte{2, 0, 1}, nums(1)), api.ErrForm},
		"a number in another form":    {cat(nums(2, 1), []byte{1, 0}), api.ErrForm},
		"more behind an ack":          {cat(ack(1, 1), []byte{0}), api.ErrTrail},
		"a text behind an ack":        {cat(nums(2), mail(1, 1, 1, "a")[2:]), api.ErrTrail},
		"no oldest one":               {nums(1, 1, 1), api.ErrShort},
		"no text":                     {nums(1, 1, 1, 1), api.ErrShort},
		"half a text":                 {cat(nums(1, 1, 1, 1, 3), []byte("ab")), api.ErrShort},
		"more behind a text":          {cat(mail(1, 1, 1, "a"), []byte("b")), api.ErrTrail},
		"mail of a life too high":     {mail(1<<40+1, 1, 1, "a"), api.ErrBig},
		"mail of a number too high":   {mail(1, 1<<40+1, 1, "a"), api.ErrBig},
		"an oldest one too high":      {mail(1, 1, 1<<40+1, "a"), api.ErrBig},
		"a text too long":             {mail(1, 1, 1, long+"y"), api.ErrBig},
		"a text too long, and cut":    {nums(1, 1, 1, 1, api.MaxMsg+1), api.ErrBig},
		"an oldest one's other form":  {cat(nums(1, 1, 1), []byte{2, 0, 1}, nums(0)), api.ErrForm},
		"no kind":                     {nums(0, 1, 1), api.ErrMsg},
		"no kind, no life":            {nums(0, 0, 0), api.ErrMsg},
		"no kind, a life too high":    {nums(0, 1<<40+1, 1), api.ErrBig},
		"no kind, and more":           {nums(0, 1, 1, 1, 0), api.ErrTrail},
		"an ack of life 0":            {ack(0, 1), api.ErrMsg},
		"an ack of number 0":          {ack(1, 0), api.ErrMsg},
		"mail of life 0":              {mail(0, 1, 1, "a"), api.ErrMsg},
		"mail of number 0":            {mail(1, 0, 0, "a"), api.ErrMsg},
		"mail of oldest 0":            {mail(1, 1, 0, "a"), api.ErrMsg},
		"number 0, oldest 1":          {mail(1, 0, 1, "a"), api.ErrMsg},
		"oldest above the number":     {mail(1, 1, 2, "a"), api.ErrMsg},
		"oldest far above the number": {mail(1, 9, 1<<40, "a"), api.ErrMsg},
		"life 0 and cut":              {nums(1, 0, 1, 1), api.ErrShort},
		"life 0 and more":             {cat(mail(0, 1, 1, "a"), []byte{0}), api.ErrTrail},
	} {
		t.Run(name, func(t *testing.T) {
			l := New(1, 10)
			wantSend(t, l, "w", api.OK)
			wantIn(t, l, mail(1, 2, 1, "b"), "b")
			wantNothing(t, l, x.frame, x.want)
			// Nothing has changed by it.
			wantWaiting(t, l, 1)
			wantOut(t, l, 0, ack(1, 2), mail(1, 1, 1, "w"))
			wantIn(t, l, mail(1, 1, 1, "a"), "a")
			wantNothing(t, l, mail(1, 2, 1, "b"), api.OK)
		})
	}
}

// The greatest numbers that are right.
func TestInEdges(t *testing.T) {
	long := strings.Repeat("x", api.MaxMsg)
	l := New(1, 10)
	wantIn(t, l, mail(1, 1, 1, long), long)
	wantIn(t, l, mail(1<<40, 1<<40, 1<<40, "z"), "z")
	wantNothing(t, l, mail(1<<40, 1<<40-1, 1<<40-1, "y"), api.OK)
	wantNothing(t, l, ack(1<<40, 1<<40), api.OK)
}

func TestInAck(t *testing.T) {
	l := New(5, 10)
	sendAll(t, l, "abc")
	wantOut(t, l, 0, mail(5, 1, 1, "a"), mail(5, 2, 1, "b"), mail(5, 3, 1, "c"))
	wantNothing(t, l, ack(4, 1), api.OK)
	wantNothing(t, l, ack(6, 1), api.OK)
	wantNothing(t, l, ack(5, 4), api.OK)
	wantNothing(t, l, ack(5, 1<<40), api.OK)
	wantWaiting(t, l, 3)
	wantNothing(t, l, ack(5, 2), api.OK)
	wantWaiting(t, l, 2)
	wantNothing(t, l, ack(5, 2), api.OK)
	wantWaiting(t, l, 2)
	wantOut(t, l, 10, mail(5, 1, 1, "a"), mail(5, 3, 1, "c"))
	wantNothing(t, l, ack(5, 1), api.OK)
	wantNothing(t, l, ack(5, 3), api.OK)
	wantWaiting(t, l, 0)
	wantOut(t, l, 100)
}

// An acknowledgement ahead of its message's number being given out says nothing of that message.
func TestInAckTooEarly(t *testing.T) {
	l := New(5, 10)
	wantNothing(t, l, ack(5, 1), api.OK)
	wantSend(t, l, "a", api.OK)
	wantWaiting(t, l, 1)
	wantOut(t, l, 0, mail(5, 1, 1, "a"))
}

// Acknowledgements say nothing of the other node's life or messages.
func TestInAckIsNoMail(t *testing.T) {
	l := New(5, 10)
	wantNothing(t, l, ack(9, 1), api.OK)
	wantOut(t, l, 0)
	wantIn(t, l, mail(1, 1, 1, "a"), "a")
}

func TestInOnce(t *testing.T) {
	l := New(1, 10)
	for _, n := range []int{2, 5, 1, 4, 3, 6} {
		wantIn(t, l, mail(3, n, 1, fmt.Sprint(n)), fmt.Sprint(n))
		wantNothing(t, l, mail(3, n, 1, fmt.Sprint(n)), api.OK)
		wantOut(t, l, 0, ack(3, n), ack(3, n))
	}
	for n := 1; n <= 6; n++ {
		wantNothing(t, l, mail(3, n, 1, "other"), api.OK)
	}
	wantOut(t, l, 0, ack(3, 1), ack(3, 2), ack(3, 3), ack(3, 4), ack(3, 5), ack(3, 6))
}

// An empty message comes, too: it is not nothing.
func TestInEmpty(t *testing.T) {
	l := New(1, 10)
	wantIn(t, l, mail(1, 1, 1, ""), "")
	wantNothing(t, l, mail(1, 1, 1, ""), api.OK)
}

func TestInOlderLife(t *testing.T) {
	l := New(1, 10)
	wantIn(t, l, mail(4, 2, 1, "b"), "b")
	wantNothing(t, l, mail(3, 1, 1, "x"), api.OK)
	// Not even its oldest one counts.
	wantNothing(t, l, mail(3, 9, 9, "x"), api.OK)
	wantOut(t, l, 0, ack(4, 2))
	wantIn(t, l, mail(4, 1, 1, "a"), "a")
}

func TestInNewerLife(t *testing.T) {
	l := New(1, 10)
	for _, n := range []int{1, 2, 4, 9} {
		wantIn(t, l, mail(4, n, 1, "old"), "old")
	}
	wantIn(t, l, mail(5, 2, 1, "b"), "b")
	// What is due to the older life is forgotten, and what has come of it.
	wantOut(t, l, 0, ack(5, 2))
	for _, n := range []int{1, 3, 4, 9} {
		wantIn(t, l, mail(5, n, 1, "new"), "new")
	}
	wantNothing(t, l, mail(5, 2, 1, "b"), api.OK)
	wantOut(t, l, 0, ack(5, 1), ack(5, 3), ack(5, 4), ack(5, 9), ack(5, 2))
	wantNothing(t, l, mail(4, 10, 1, "older"), api.OK)
	// Lives may leap.
	wantIn(t, l, mail(1<<40, 1, 1, "last"), "last")
	wantOut(t, l, 0, ack(1<<40, 1))
}

// A newer life counts also where its message is too far above.
func TestInNewerLifeTooFar(t *testing.T) {
	l := New(1, 10)
	wantIn(t, l, mail(4, 1, 1, "a"), "a")
	wantNothing(t, l, mail(5, 65, 1, "x"), api.OK)
	wantOut(t, l, 0)
	wantNothing(t, l, mail(4, 2, 1, "b"), api.OK)
	wantIn(t, l, mail(5, 64, 1, "y"), "y")
	wantIn(t, l, mail(5, 1, 1, "a"), "a")
	wantOut(t, l, 0, ack(5, 64), ack(5, 1))
}

func TestInOldestCountsAsCome(t *testing.T) {
	l := New(1, 10)
	wantIn(t, l, mail(1, 9, 5, "i"), "i")
	wantOut(t, l, 0, ack(1, 9))
	for n := 1; n <= 4; n++ {
		wantNothing(t, l, mail(1, n, 1, "late"), api.OK)
	}
	// They are acknowledged all the same.
	wantOut(t, l, 0, ack(1, 1), ack(1, 2), ack(1, 3), ack(1, 4))
	for n := 5; n <= 8; n++ {
		wantIn(t, l, mail(1, n, 1, "now"), "now")
	}
	wantNothing(t, l, mail(1, 9, 1, "i"), api.OK)
	// A lower oldest one than before takes nothing back.
	wantNothing(t, l, mail(1, 3, 2, "late"), api.OK)
}

// The oldest one counts also where the message has come already.
func TestInOldestOfDouble(t *testing.T) {
	l := New(1, 10)
	wantIn(t, l, mail(1, 9, 1, "i"), "i")
	wantNothing(t, l, mail(1, 9, 5, "i"), api.OK)
	wantNothing(t, l, mail(1, 4, 1, "d"), api.OK)
	wantIn(t, l, mail(1, 5, 1, "e"), "e")
}

// The oldest one counts also where the message is too far above what has come.
func TestInOldestOfTooFar(t *testing.T) {
	l := New(1, 10)
	wantNothing(t, l, mail(1, 70, 4, "x"), api.OK)
	wantOut(t, l, 0)
	wantNothing(t, l, mail(1, 3, 1, "c"), api.OK)
	wantIn(t, l, mail(1, 4, 1, "d"), "d")
	wantOut(t, l, 0, ack(1, 3), ack(1, 4))
	wantNothing(t, l, mail(1, 69, 1, "x"), api.OK)
	wantIn(t, l, mail(1, 68, 1, "y"), "y")
}

func TestInReach(t *testing.T) {
	l := New(1, 10)
	wantNothing(t, l, mail(1, 65, 1, "x"), api.OK)
	wantOut(t, l, 0)
	wantIn(t, l, mail(1, 64, 1, "y"), "y")
	wantOut(t, l, 0, ack(1, 64))
	wantNothing(t, l, mail(1, 65, 1, "x"), api.OK)
	// With the first one come, all up to 1 have.
	wantIn(t, l, mail(1, 1, 1, "a"), "a")
	wantIn(t, l, mail(1, 65, 1, "x"), "x")
	wantNothing(t, l, mail(1, 66, 1, "z"), api.OK)
	// An oldest one moves it on by itself.
	wantIn(t, l, mail(1, 66, 3, "z"), "z")
	wantNothing(t, l, mail(1, 67, 3, "z"), api.OK)
	// A gap that is filled lets all behind it count: here up to 63, and so up to 66.
	for n := 3; n <= 63; n++ {
		wantIn(t, l, mail(1, n, 1, "f"), "f")
		l.Out(0)
	}
	wantNothing(t, l, mail(1, 66+65, 3, "z"), api.OK)
	wantIn(t, l, mail(1, 66+64, 3, "z"), "z")
}

// An oldest one that stands right below numbers that have come lets those count, too.
func TestInOldestClosesGap(t *testing.T) {
	l := New(1, 10)
	for _, n := range []int{5, 6, 7} {
		wantIn(t, l, mail(1, n, 1, "m"), "m")
	}
	wantNothing(t, l, mail(1, 7+65, 5, "x"), api.OK)
	wantIn(t, l, mail(1, 7+64, 1, "y"), "y")
}

func TestInDueBound(t *testing.T) {
	l := New(1, 10)
	var want [][]byte
	for n := 1; n <= 40; n++ {
		wantIn(t, l, mail(1, n, 1, "m"), "m")
		if n <= 32 {
			want = append(want, ack(1, n))
		}
	}
	wantNothing(t, l, mail(1, 33, 1, "m"), api.OK)
	wantOut(t, l, 0, want...)
	// What was not acknowledged then is when it comes again.
	wantNothing(t, l, mail(1, 33, 1, "m"), api.OK)
	wantOut(t, l, 0, ack(1, 33))
	wantIn(t, l, mail(1, 41, 1, "m"), "m")
	wantOut(t, l, 0, ack(1, 41))
}

// One that comes again and again takes up no more places than there are.
func TestInDueBoundOfDoubles(t *testing.T) {
	l := New(1, 10)
	wantIn(t, l, mail(1, 1, 1, "a"), "a")
	for range 100 {
		wantNothing(t, l, mail(1, 1, 1, "a"), api.OK)
	}
	if got := len(l.Out(0)); got != 32 {
		t.Errorf("%d acknowledgements", got)
	}
}

// What is remembered stays within its bounds, whatever comes.
func TestRemembersLittle(t *testing.T) {
	l := New(1, 10)
	r := rand.New(rand.NewSource(13))
	for range 20000 {
		oldest := 1 + r.Intn(1000)
		l.In(mail(1+r.Intn(3), oldest+r.Intn(100), oldest, "m"))
		if len(l.came.above) > 64 || len(l.came.due) > api.MaxLinkQ {
			t.Fatalf("%d numbers, %d acknowledgements are kept", len(l.came.above), len(l.came.due))
		}
	}
	for n := range 2000 {
		l.In(mail(9, n+1, 1, "m"))
	}
	if len(l.came.above) != 0 {
		t.Errorf("%d numbers are kept where all have come", len(l.came.above))
	}
}

// P13.5: Waiting, and rule 5.

func TestNil(t *testing.T) {
	var l *Link
	wantSend(t, l, "a", api.ErrArg)
	wantSend(t, l, strings.Repeat("x", api.MaxMsg), api.ErrArg)
	wantWaiting(t, l, 0)
	wantOut(t, l, 0)
	wantNothing(t, l, mail(1, 1, 1, "a"), api.ErrArg)
	wantNothing(t, l, ack(1, 1), api.ErrArg)
	wantNothing(t, l, nil, api.ErrArg)
}

// A link that nobody made takes calls without a panic.
func TestZero(t *testing.T) {
	var l Link
	wantSend(t, &l, "a", api.OK)
	wantIn(t, &l, mail(1, 2, 1, "b"), "b")
	wantNothing(t, &l, ack(1, 1), api.OK)
	wantWaiting(t, &l, 1)
	if got := len(l.Out(0)); got != 2 {
		t.Errorf("%d frames", got)
	}
}

// Rule 4: no memory is shared.

func TestSendKeepsNothing(t *testing.T) {
	l := New(1, 10)
	room := []byte("abcd")
	if e := l.Send(room[:2]); e != api.OK {
		t.Errorf("Send = %d", e)
	}
	room[0], room[2] = 'x', 'x'
	fs := l.Out(0)
	if tell(fs) != tell([][]byte{mail(1, 1, 1, "ab")}) {
		t.Errorf("Out = %s", tell(fs))
	}
	for i := range fs[0] {
		fs[0][i] = 'z'
	}
	_ = append(fs[0], 'z')
	wantOut(t, l, 10, mail(1, 1, 1, "ab"))
	if string(room) != "xbxd" {
		t.Errorf("the argument is %q now", room)
	}
}

func TestInKeepsNothing(t *testing.T) {
	l := New(1, 10)
	frame := mail(1, 1, 1, "ab")
	same := bytes.Clone(frame)
	got, _, _ := l.In(frame)
	if !bytes.Equal(frame, same) {
		t.Errorf("the argument is %x now", frame)
	}
	got[0] = 'z'
	_ = append(got, 'z')
	if !bytes.Equal(frame, same) {
		t.Error("the message and the frame share memory")
	}
	clear(frame)
	wantOut(t, l, 0, ack(1, 1))
}

func TestOutIsNew(t *testing.T) {
	l := New(1, 10)
	sendAll(t, l, "abc")
	l.In(mail(1, 1, 1, "a"))
	l.In(mail(1, 2, 1, "b"))
	fs := l.Out(0)
	want := [][]byte{ack(1, 1), ack(1, 2), mail(1, 1, 1, "a"), mail(1, 2, 1, "b"), mail(1, 3, 1, "c")}
	for i := range fs {
		rest := tell(fs[i+1:])
		_ = append(fs[i], "zzzzzzzz"...)
		clear(fs[i])
		if tell(fs[i+1:]) != rest {
			t.Error("two frames share memory")
		}
	}
	wantOut(t, l, 10, want[2:]...)
}

// Rule 6: two links never meet.

func TestTwoLinks(t *testing.T) {
	a, b := New(1, 10), New(1, 10)
	wantSend(t, a, "a", api.OK)
	wantIn(t, a, mail(1, 1, 1, "x"), "x")
	wantWaiting(t, b, 0)
	wantOut(t, b, 0)
	wantIn(t, b, mail(1, 1, 1, "x"), "x")
	wantNothing(t, b, ack(1, 1), api.OK)
	wantWaiting(t, a, 1)
}

// All calls against a plain model.

// model is an end that forgets nothing: the numbers of all lives that came, and every message ever sent.
type model struct {
	life, retry int
	sent        []string
	acked       map[int]bool
	at          map[int]int
	top         int // the highest life that came
	came        map[[2]int]bool
	due         []string
}

func newModel(life, retry int) *model {
	return &model{life: life, retry: retry, acked: map[int]bool{}, at: map[int]int{}, came: map[[2]int]bool{}}
}

// left is the numbers that wait.
func (m *model) left() []int {
	var all []int
	for i := range m.sent {
		if !m.acked[i+1] {
			all = append(all, i+1)
		}
	}
	return all
}

func (m *model) send(data string) api.Errno {
	if left := m.left(); len(left) > 0 && left[0] <= len(m.sent)+1-32 {
		return api.ErrQueue
	}
	m.sent = append(m.sent, data)
	return api.OK
}

func (m *model) out(now int) string {
	all := m.due
	m.due = nil
	left := m.left()
	for _, n := range left {
		if at, was := m.at[n]; was && at <= now && now < at+m.retry {
			continue
		}
		m.at[n] = now
		all = append(all, fmt.Sprintf("%x", mail(m.life, n, left[0], m.sent[n-1])))
	}
	return strings.Join(all, " ")
}

func (m *model) inMail(life, number, oldest int) bool {
	if life < m.top {
		return false
	}
	if life > m.top {
		m.top, m.due = life, nil
	}
	for n := 1; n < oldest; n++ {
		m.came[[2]int{life, n}] = true
	}
	all := 0
	for m.came[[2]int{life, all + 1}] {
		all++
	}
	if number > all+64 {
		return false
	}
	if len(m.due) < 32 {
		m.due = append(m.due, fmt.Sprintf("%x", ack(life, number)))
	}
	key := [2]int{life, number}
	first := !m.came[key]
	m.came[key] = true
	return first
}

// walk is a random walk through all calls, with frames near what has come.
func walk(t *testing.T, r *rand.Rand) {
	life, retry := 1+r.Intn(3), 1+r.Intn(12)
	l, m := New(life, retry), newModel(life, retry)
	now, peer, base := 0, 1, 0
	for step := range 300 {
		switch r.Intn(12) {
		case 0, 1, 2:
			data := fmt.Sprint(step)
			if got, want := l.Send([]byte(data)), m.send(data); got != want {
				t.Fatalf("Send = %d, want %d", got, want)
			}
		case 3, 4:
			now += r.Intn(8) - 1
			if got, want := tell(l.Out(now)), m.out(now); got != want {
				t.Fatalf("Out(%d) = %s, want %s", now, got, want)
			}
		case 5, 6:
			a, n := life+r.Intn(8)/7, 1+r.Intn(len(m.sent)+2)
			if left := m.left(); len(left) > 0 && r.Intn(2) == 0 {
				n = left[0]
			}
			// An acknowledgement of what was never sent says nothing.
			if a == life && n <= len(m.sent) {
				m.acked[n] = true
			}
			wantNothing(t, l, ack(a, n), api.OK)
		default:
			if r.Intn(40) == 0 {
				peer++
				base = 0
			}
			base += r.Intn(3)
			from := max(1, peer-r.Intn(20)/19)
			number := 1 + base + r.Intn(70)
			oldest := max(1, number-r.Intn(90))
			data := fmt.Sprint(from, number)
			want := m.inMail(from, number, oldest)
			got, ok, e := l.In(mail(from, number, oldest, data))
			if ok != want || e != api.OK || ok != (string(got) == data) {
				t.Fatalf("In of %d of %d in life %d = %q, %v, %d", number, oldest, from, got, ok, e)
			}
		}
		if got, want := l.Waiting(), len(m.left()); got != want {
			t.Fatalf("%d wait, want %d", got, want)
		}
	}
}

func TestAgainstModel(t *testing.T) {
	for seed := range 400 {
		walk(t, rand.New(rand.NewSource(int64(seed))))
	}
}

// P13.6: two ends, and a net that does with their frames what it likes.

// pair is two ends with a net between them: frames[i] is on its way to end i.
type pair struct {
	ends   [2]*Link
	sent   [2]map[string]bool // what was taken at end i
	got    [2]map[string]bool // what came out at end i
	frames [2][][]byte
}

func newPair(r *rand.Rand) *pair {
	p := &pair{}
	for i := range 2 {
		p.ends[i] = New(1+r.Intn(3), 1+r.Intn(10))
		p.sent[i], p.got[i] = map[string]bool{}, map[string]bool{}
	}
	return p
}

func (p *pair) send(i, step int) {
	data := fmt.Sprint("from ", i, ": ", step)
	if p.ends[i].Send([]byte(data)) == api.OK {
		p.sent[i][data] = true
	}
}

func (p *pair) out(i, now int) {
	p.frames[1-i] = append(p.frames[1-i], p.ends[i].Out(now)...)
}

// arrive lets a frame come to end i, and checks what comes out there.
func (p *pair) arrive(t *testing.T, i int, frame []byte) {
	t.Helper()
	data, ok, e := p.ends[i].In(frame)
	if e != api.OK {
		t.Fatalf("In(%x) = %d", frame, e)
	}
	if !ok {
		return
	}
	if p.got[i][string(data)] {
		t.Fatalf("%q comes out twice", data)
	}
	if !p.sent[1-i][string(data)] {
		t.Fatalf("%q comes out, which was never sent", data)
	}
	p.got[i][string(data)] = true
}

// storm sends, and loses, doubles and shuffles frames.
func (p *pair) storm(t *testing.T, r *rand.Rand, steps int) (now int) {
	for step := range steps {
		i := r.Intn(2)
		switch r.Intn(8) {
		case 0, 1:
			p.send(i, step)
		case 2:
			now += r.Intn(6)
			p.out(i, now)
		case 3:
			if len(p.frames[i]) > 0 && r.Intn(2) == 0 {
				at := r.Intn(len(p.frames[i]))
				p.frames[i] = slices.Delete(p.frames[i], at, at+1)
			}
		default:
			if len(p.frames[i]) > 0 {
				at := r.Intn(len(p.frames[i]))
				p.arrive(t, i, p.frames[i][at])
				// Most are still on their way, to come again.
				if r.Intn(3) == 0 {
					p.frames[i] = slices.Delete(p.frames[i], at, at+1)
				}
			}
		}
	}
	return now
}

// calm lets all frames arrive, and asks both ends at intervals of 10 ticks, until nothing waits.
func (p *pair) calm(t *testing.T, r *rand.Rand, now int) {
	for range 10 {
		now += 10
		for i := range 2 {
			p.out(i, now)
		}
		for i := range 2 {
			r.Shuffle(len(p.frames[i]), func(a, b int) {
				p.frames[i][a], p.frames[i][b] = p.frames[i][b], p.frames[i][a]
			})
			for _, f := range p.frames[i] {
				p.arrive(t, i, f)
			}
			p.frames[i] = nil
		}
	}
	for i := range 2 {
		if n := p.ends[i].Waiting(); n != 0 {
			t.Errorf("%d wait at end %d behind the calm", n, i)
		}
		for data := range p.sent[i] {
			if !p.got[1-i][data] {
				t.Errorf("%q has never come out", data)
			}
		}
	}
}

func TestTwoEnds(t *testing.T) {
	for seed := range 300 {
		r := rand.New(rand.NewSource(int64(seed)))
		p := newPair(r)
		p.calm(t, r, p.storm(t, r, 1200))
		if len(p.got[0]) == 0 || len(p.got[1]) == 0 {
			t.Fatal("nothing has come out")
		}
	}
}

// A frame that is held back for long doesn't make its message come out again.
func TestHeldBack(t *testing.T) {
	a, b := New(1, 1), New(1, 1)
	wantSend(t, a, "first", api.OK)
	first := a.Out(0)[0]
	wantIn(t, b, first, "first")
	for now := 1; now < 500; now++ {
		for _, f := range b.Out(now) {
			wantNothing(t, a, f, api.OK)
		}
		data := fmt.Sprint(now)
		wantSend(t, a, data, api.OK)
		fs := a.Out(now)
		wantIn(t, b, fs[len(fs)-1], data)
		wantNothing(t, b, first, api.OK)
	}
}

// An end whose node has started again goes on with the other one, and what its older life had sent comes no more.
func TestNewEnd(t *testing.T) {
	a, b := New(1, 10), New(1, 10)
	sendAll(t, a, "xy")
	old := a.Out(0)
	wantIn(t, b, old[0], "x")
	a = New(2, 10)
	wantSend(t, a, "z", api.OK)
	wantIn(t, b, a.Out(0)[0], "z")
	wantNothing(t, b, old[1], api.OK)
	for _, f := range b.Out(0) {
		wantNothing(t, a, f, api.OK)
	}
	wantWaiting(t, a, 0)
}

func TestExamples(t *testing.T) {
	l, other := New(3, 10), New(1, 10)
	wantSend(t, l, "a", api.OK)
	frame := []byte{0x01, 0x01, 0x01, 0x03, 0x01, 0x01, 0x01, 0x01, 0x01, 0x01, 0x61}
	wantOut(t, l, 0, frame)
	wantOut(t, l, 9)
	wantOut(t, l, 10, frame)
	wantIn(t, other, frame, "a")
	wantOut(t, other, 0, []byte{0x01, 0x02, 0x01, 0x03, 0x01, 0x01})
	wantNothing(t, other, frame, api.OK)
}

// FuzzIn: whatever bytes come, a frame that is taken is the only form of what it says, and nothing is kept beyond the bounds.
func FuzzIn(f *testing.F) {
	f.Add(mail(1, 1, 1, "a"), mail(1, 3, 2, "b"))
	f.Add(ack(2, 1), mail(2, 1, 1, ""))
	f.Add(nums(0, 1, 1), nums(3))
	f.Fuzz(func(t *testing.T, one, two []byte) {
		l := New(2, 10)
		sendAll(t, l, "ab")
		for _, frame := range [][]byte{one, two, one} {
			waiting := l.Waiting()
			data, ok, e := l.In(frame)
			if (ok || len(data) > 0) && (e != api.OK || frame[1] != 1) {
				t.Errorf("In(%x) = %q, %v, %d", frame, data, ok, e)
			}
			if ok && !bytes.HasSuffix(frame, data) {
				t.Errorf("In(%x) = %q", frame, data)
			}
			if l.Waiting() != waiting && (e != api.OK || !bytes.HasPrefix(frame, nums(2, 2))) {
				t.Errorf("In(%x) takes an acknowledgement", frame)
			}
			if len(l.came.above) > 64 || len(l.came.due) > api.MaxLinkQ {
				t.Errorf("In(%x) keeps too much", frame)
			}
		}
	})
}
