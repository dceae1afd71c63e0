package net

import (
	"fmt"
	"math"
	"slices"
	"strings"
	"testing"

	"mosaic/api"
)

// need asks for an answer of a call.
func need(t *testing.T, what string, got, want api.Errno) {
	t.Helper()
	if got != want {
		t.Errorf("%s: %v, want %v", what, got, want)
	}
}

// needID asks for a number, and no error.
func needID(t *testing.T, what string, id int, e api.Errno, want int) {
	t.Helper()
	if id != want || e != api.OK {
		t.Errorf("%s: %d, %v, want %d", what, id, e, want)
	}
}

// needError asks for an error, and no number beside it.
func needError(t *testing.T, what string, id int, got, want api.Errno) {
	t.Helper()
	if id != 0 || got != want {
		t.Errorf("%s: %d, %v, want %v", what, id, got, want)
	}
}

func gram(from, to int) api.Gram {
	return api.Gram{From: from, To: to, Text: strings.Repeat("t", from+to)}
}

// filled is a net of a room under which the datagrams went that are given.
func filled(t *testing.T, room int, l ...api.Gram) *Net {
	t.Helper()
	n := New(room)
	for i, g := range l {
		id, e := n.Send(g)
		needID(t, "Send", id, e, i+1)
	}
	return n
}

// needMails asks for just these datagrams under way, in all ways to ask for them.
func needMails(t *testing.T, what string, n *Net, want ...api.Mail) {
	t.Helper()
	if got := n.List(); !slices.Equal(got, want) || n.Len() != len(want) {
		t.Errorf("%s: List %v, Len %d, want %v", what, got, n.Len(), want)
	}
	for i, x := range want {
		if id := n.Nth(i); id != x.ID {
			t.Errorf("%s: Nth(%d) = %d, want %d", what, i, id, x.ID)
		}
	}
	for node := range api.MaxPeer + 2 {
		var ids []int
		for _, x := range want {
			if x.Gram.To == node {
				ids = append(ids, x.ID)
			}
		}
		if got := n.To(node); !slices.Equal(got, ids) {
			t.Errorf("%s: To(%d) = %v, want %v", what, node, got, ids)
		}
	}
}

// 21.1: room is from 1 to MaxMail, and nothing is under way at first.
func TestNew(t *testing.T) {
	for _, room := range []int{0, -1, api.MaxMail + 1, math.MaxInt, math.MinInt, 1<<32 + 1} {
		if New(room) != nil {
			t.Errorf("New(%d) is there", room)
		}
	}
	for _, room := range []int{1, 2, 599, 600} {
		n := New(room)
		if n == nil {
			t.Fatalf("New(%d) is not there", room)
		}
		needMails(t, "New", n)
		for i := range room {
			id, e := n.Send(gram(1, 2))
			needID(t, "Send", id, e, i+1)
		}
		id, e := n.Send(gram(1, 2))
		needError(t, "Send", id, e, api.ErrFull)
		if n.Len() != room {
			t.Errorf("of room %d there are %d", room, n.Len())
		}
	}
}

// 21.1: what may go under way, goes there; what may not, takes no number and no room.
func TestSend(t *testing.T) {
	n := New(40)
	for _, g := range []api.Gram{
		{From: 0, To: 1}, {From: 1, To: 0}, {From: 16, To: 1}, {From: 1, To: 16}, {From: -1, To: 1}, {From: 1, To: -1},
		{From: 1, To: 1}, {From: 15, To: 15}, {From: 0, To: 0}, {From: 16, To: 17}, {From: math.MaxInt, To: 1}, {From: 1, To: math.MinInt},
		{From: 1<<32 + 1, To: 2}, {From: 1, To: 1<<32 + 2}, {},
		{From: 1, To: 2, Text: strings.Repeat("x", 401)}, {From: 1, To: 2, Text: strings.Repeat("x", 70000)},
	} {
		id, e := n.Send(g)
		needError(t, fmt.Sprintf("Send of %d to %d", g.From, g.To), id, e, api.ErrArg)
		needMails(t, "Send", n)
	}
	var want []api.Mail
	for i, g := range []api.Gram{
		{From: 1, To: 2}, {From: 2, To: 1}, {From: 1, To: 15}, {From: 15, To: 1}, {From: 14, To: 15, Text: "\x00"},
		{From: 3, To: 4, Text: strings.Repeat("\xff", 400)}, {From: 3, To: 4, Text: strings.Repeat("\xff", 399)}, {From: 1, To: 2},
	} {
		id, e := n.Send(g)
		needID(t, "Send", id, e, i+1)
		want = append(want, api.Mail{ID: i + 1, Gram: g})
		needMails(t, "Send", n, want...)
	}
}

// 21.1: what may not go under way is told ahead of a lack of room.
func TestErrorsInOrder(t *testing.T) {
	n := filled(t, 1, gram(1, 2))
	id, e := n.Send(gram(2, 2))
	needError(t, "Send", id, e, api.ErrArg)
	id, e = n.Send(gram(2, 3))
	needError(t, "Send", id, e, api.ErrFull)
	id, e = n.Twice(2)
	needError(t, "Twice", id, e, api.ErrNone)
	id, e = n.Twice(1)
	needError(t, "Twice", id, e, api.ErrFull)
	needMails(t, "errors", n, api.Mail{ID: 1, Gram: gram(1, 2)})
}

// 21.1: of numbers that no mail under way has, calls answer ErrNone.
func TestNone(t *testing.T) {
	n := filled(t, 9, gram(1, 2), gram(2, 1), gram(3, 4))
	need(t, "Lose", n.Lose(2), api.OK)
	for _, id := range []int{0, -1, 2, 4, 1<<32 + 1, math.MaxInt, math.MinInt} {
		g, e := n.Take(id)
		if g != (api.Gram{}) || e != api.ErrNone {
			t.Errorf("Take(%d): %v, %v", id, g, e)
		}
		need(t, "Lose", n.Lose(id), api.ErrNone)
		other, e := n.Twice(id)
		needError(t, "Twice", other, e, api.ErrNone)
	}
	needMails(t, "none", n, api.Mail{ID: 1, Gram: gram(1, 2)}, api.Mail{ID: 3, Gram: gram(3, 4)})
}

// 21.1: what is taken, or lost, is not under way any more; what is doubled is once more.
func TestTakeLoseTwice(t *testing.T) {
	n := filled(t, 4, gram(1, 2), gram(2, 1), gram(3, 4))
	id, e := n.Twice(2)
	needID(t, "Twice", id, e, 4)
	needMails(t, "Twice", n, api.Mail{ID: 1, Gram: gram(1, 2)}, api.Mail{ID: 2, Gram: gram(2, 1)}, api.Mail{ID: 3, Gram: gram(3, 4)}, api.Mail{ID: 4, Gram: gram(2, 1)})
	g, e := n.Take(2)
	if g != gram(2, 1) || e != api.OK {
		t.Errorf("Take: %v, %v", g, e)
	}
	need(t, "Lose", n.Lose(1), api.OK)
	needMails(t, "Lose", n, api.Mail{ID: 3, Gram: gram(3, 4)}, api.Mail{ID: 4, Gram: gram(2, 1)})
	g, e = n.Take(4)
	if g != gram(2, 1) || e != api.OK {
		t.Errorf("Take: %v, %v", g, e)
	}
	need(t, "Lose", n.Lose(3), api.OK)
	needMails(t, "Take", n)
}

// Words: a number is never given again, not even the greatest one, or when nothing is under way.
func TestNumbersAreNew(t *testing.T) {
	n := filled(t, 2, gram(1, 2), gram(2, 1))
	n.Take(2)
	id, e := n.Send(gram(5, 6))
	needID(t, "Send", id, e, 3)
	n.Lose(3)
	n.Lose(1)
	id, e = n.Send(gram(5, 6))
	needID(t, "Send", id, e, 4)
	id, e = n.Twice(4)
	needID(t, "Twice", id, e, 5)
	n.Send(gram(1, 2)) // there is no room, and no number for it
	n.Take(4)
	id, e = n.Send(gram(7, 8))
	needID(t, "Send", id, e, 6)
	needMails(t, "new", n, api.Mail{ID: 5, Gram: gram(5, 6)}, api.Mail{ID: 6, Gram: gram(7, 8)})
}

// 21.2: Nth goes round; of nothing, or below 0, it is 0.
func TestNth(t *testing.T) {
	n := filled(t, 9, gram(1, 2), gram(2, 1), gram(3, 4), gram(4, 3))
	n.Take(2)
	for i, want := range map[int]int{0: 1, 1: 3, 2: 4, 3: 1, 4: 3, 5: 4, 3000: 1, math.MaxInt: []int{1, 3, 4}[math.MaxInt%3], -1: 0, -3: 0, math.MinInt: 0} {
		if got := n.Nth(i); got != want {
			t.Errorf("Nth(%d) = %d, want %d", i, got, want)
		}
	}
	for _, i := range []int{-1, 0, 1, math.MaxInt} {
		if got := New(3).Nth(i); got != 0 {
			t.Errorf("of nothing Nth(%d) = %d", i, got)
		}
	}
}

// 21.2: To is asked of any number.
func TestTo(t *testing.T) {
	n := filled(t, 9, gram(1, 2), gram(2, 1), gram(3, 2), gram(15, 14))
	for node, want := range map[int][]int{2: {1, 3}, 1: {2}, 14: {4}, 3: nil, 15: nil, 0: nil, -1: nil, 16: nil, math.MinInt: nil, 1<<32 + 2: nil} {
		if got := n.To(node); !slices.Equal(got, want) {
			t.Errorf("To(%d) = %v, want %v", node, got, want)
		}
	}
}

// 21.2: a nil one answers ErrArg, nothing, 0.
func TestNil(t *testing.T) {
	var n *Net
	id, e := n.Send(gram(1, 2))
	needError(t, "Send", id, e, api.ErrArg)
	g, e := n.Take(1)
	if g != (api.Gram{}) || e != api.ErrArg {
		t.Errorf("Take: %v, %v", g, e)
	}
	need(t, "Lose", n.Lose(1), api.ErrArg)
	id, e = n.Twice(1)
	needError(t, "Twice", id, e, api.ErrArg)
	if n.Nth(0) != 0 || n.Nth(3) != 0 || n.Nth(-1) != 0 || len(n.List()) != 0 || len(n.To(1)) != 0 || n.Len() != 0 {
		t.Error("there is something in a nil one")
	}
}

// R3: who changes what is answered changes nothing that is kept.
func TestAnswersAreNew(t *testing.T) {
	n := filled(t, 9, gram(1, 2), gram(3, 2))
	for i := range n.List() {
		n.List()[i] = api.Mail{}
	}
	l, ids := n.List(), n.To(2)
	l[0], ids[0] = api.Mail{}, 9
	needMails(t, "answers", n, api.Mail{ID: 1, Gram: gram(1, 2)}, api.Mail{ID: 2, Gram: gram(3, 2)})
	other := n.List()
	n.Take(1)
	if other[0] != (api.Mail{ID: 1, Gram: gram(1, 2)}) {
		t.Errorf("what was answered has changed: %v", other)
	}
}

// Example 1.
func TestExample(t *testing.T) {
	n := filled(t, 9, gram(1, 2), gram(1, 2))
	n.Take(1)
	if n.Nth(0) != 2 {
		t.Errorf("Nth(0) = %d", n.Nth(0))
	}
	id, e := n.Twice(2)
	needID(t, "Twice", id, e, 3)
}
