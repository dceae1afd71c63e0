package store

import (
	"math"
	"math/rand"
	"reflect"
	"slices"
	"strings"
	"testing"

	"mosaic/api"
)

// one is an entry that may be kept, if the numbers are a row.
func one(peer, seed int, idx ...int) api.Entry {
	return api.Entry{Peer: peer, Head: api.Head{Seed: seed}, Idx: idx, Data: "ab"}
}

// upTo are the numbers below n.
func upTo(n int) []int {
	l := make([]int, n)
	for i := range l {
		l[i] = i
	}
	return l
}

// 14.1: of which room there is a store.
func TestNew(t *testing.T) {
	for _, room := range []int{1, 2, 399, 400} {
		s := New(room)
		if s == nil || s.Room() != room || s.Len() != 0 || len(s.All()) != 0 {
			t.Errorf("New(%d): %v", room, s)
		}
	}
	for _, room := range []int{0, -1, 401, 1 << 32, math.MaxInt, math.MinInt} {
		if New(room) != nil {
			t.Errorf("there is a store of room %d", room)
		}
	}
}

// 14.1: the example: what is full is not so any more, when something was dropped; numbers are not given again.
func TestExample(t *testing.T) {
	s := New(2)
	for i, want := range []api.Errno{api.OK, api.OK, api.ErrFull} {
		if id, e := s.Add(one(1, i, i)); e != want || (e == api.OK) != (id == i+1) {
			t.Errorf("Add %d: %d, %v", i, id, e)
		}
	}
	if e := s.Drop(1); e != api.OK {
		t.Errorf("Drop: %v", e)
	}
	if id, e := s.Add(one(1, 2, 2)); id != 3 || e != api.OK {
		t.Errorf("Add behind Drop: %d, %v", id, e)
	}
}

// 14.1: a number is never given again, not even the last one, nor when all are gone.
func TestNumbersGoOn(t *testing.T) {
	s := New(1)
	for k := range 1000 {
		id, e := s.Add(one(1+k%15, 7, 3))
		if id != k+1 || e != api.OK {
			t.Fatalf("Add: %d, %v, want %d", id, e, k+1)
		}
		if k%2 == 0 {
			s.Drop(id)
		} else {
			s.DropPeer(1 + k%15)
		}
	}
}

// wrongOnes may not be kept.
func wrongOnes() []api.Entry {
	l := []api.Entry{{}}
	for _, peer := range []int{0, -1, 16, 1 << 32, math.MaxInt, math.MinInt} {
		l = append(l, one(peer, 1, 0))
	}
	for _, idx := range [][]int{nil, {}, {160}, {0, 160}, {-1}, {-1, 0}, {1, 1}, {2, 1}, {0, 2, 1}, {math.MaxInt}, {math.MinInt}, {1 << 32}, upTo(161), make([]int, 1000)} {
		l = append(l, one(1, 1, idx...))
	}
	for _, data := range []string{"", strings.Repeat("a", 65), strings.Repeat("a", 100000)} {
		l = append(l, api.Entry{Peer: 1, Idx: []int{1}, Data: data})
	}
	return l
}

// 14.1: what may be kept, at its edges, and what may not be.
func TestMayBeKept(t *testing.T) {
	s := New(400)
	for k, x := range []api.Entry{
		one(1, 1, 0), one(15, 1, 159), one(2, 1, upTo(160)...), {Peer: 3, Idx: []int{5}, Data: "a"}, {Peer: 4, Idx: []int{5}, Data: strings.Repeat("a", 64)},
		{ID: 77, Peer: 5, Idx: []int{5}, Data: "\x00"}, {ID: -1, Peer: 5, Head: api.Head{Seed: 1}, Idx: []int{5}, Data: "\x00"},
		// of the head nothing is asked
		{Peer: 6, Head: api.Head{Mode: -9, Seed: math.MinInt, Have: strings.Repeat("x", 1000)}, Idx: []int{0, 3}, Data: "a"},
	} {
		if id, e := s.Add(x); id != k+1 || e != api.OK {
			t.Errorf("Add %d: %d, %v", k, id, e)
		}
		x.ID = k + 1
		if got, is := s.Get(k + 1); !is || !reflect.DeepEqual(got, x) {
			t.Errorf("Get %d: %v, want %v", k+1, got, x)
		}
	}
	n := s.Len()
	for k, x := range wrongOnes() {
		if id, e := s.Add(x); id != 0 || e != api.ErrArg {
			t.Errorf("Add of the wrong one %d: %d, %v", k, id, e)
		}
	}
	if id, e := s.Add(one(1, 100, 1)); s.Len() != n+1 || id != n+1 || e != api.OK {
		t.Errorf("behind wrong ones: %d kept, %d, %v", s.Len(), id, e)
	}
}

// 14.1: where several errors apply the first one is answered; what answers an error changes nothing.
func TestErrorsInOrder(t *testing.T) {
	s := New(1)
	s.Add(one(1, 5, 0))
	kept := s.All()
	for _, x := range []struct {
		x    api.Entry
		want api.Errno
	}{{one(1, 5, 0), api.ErrThere}, {one(1, 5, 4), api.ErrThere}, {one(1, 5), api.ErrArg}, {one(1, 6, 0), api.ErrFull}, {one(2, 5, 0), api.ErrFull}, {one(16, 5, 0), api.ErrArg}, {api.Entry{ID: 1, Peer: 1, Head: api.Head{Seed: 5}, Idx: []int{9}, Data: "abc"}, api.ErrThere}, {api.Entry{Peer: 1, Head: api.Head{Seed: 5}, Idx: []int{9}}, api.ErrArg}} {
		if id, e := s.Add(x.x); id != 0 || e != x.want {
			t.Errorf("Add(%v) = %d, %v, want %v", x.x, id, e, x.want)
		}
	}
	if !reflect.DeepEqual(s.All(), kept) {
		t.Errorf("an error has changed something: %v", s.All())
	}
}

// 14.1: heads are unlike by each of their parts.
func TestUnlikeHeads(t *testing.T) {
	s := New(10)
	for k, h := range []api.Head{{}, {Mode: 1}, {Seed: 1}, {Have: "\x00"}, {Mode: 1, Seed: 1, Have: "\x01"}, {Mode: 1, Seed: 1, Have: "\x01\x00"}} {
		if id, e := s.Add(api.Entry{Peer: 1, Head: h, Idx: []int{0}, Data: "a"}); id != k+1 || e != api.OK {
			t.Errorf("Add %v: %d, %v", h, id, e)
		}
		if _, e := s.Add(api.Entry{Peer: 1, Head: h, Idx: []int{1}, Data: "b"}); e != api.ErrThere {
			t.Errorf("Add %v again: %v", h, e)
		}
	}
}

// 14.2: what is not there.
func TestNothing(t *testing.T) {
	s := New(5)
	s.Add(one(1, 5, 0, 3))
	for _, id := range []int{0, -1, 2, 400, math.MaxInt, math.MinInt} {
		if x, is := s.Get(id); is || !reflect.DeepEqual(x, api.Entry{}) {
			t.Errorf("Get(%d): %v", id, x)
		}
		if e := s.Drop(id); e != api.ErrNone {
			t.Errorf("Drop(%d): %v", id, e)
		}
		if l := s.Of(id); len(l) != 0 {
			t.Errorf("Of(%d): %v", id, l)
		}
		if l := s.DropPeer(id); len(l) != 0 {
			t.Errorf("DropPeer(%d): %v", id, l)
		}
	}
	for _, num := range []int{-1, 1, 2, 4, 160, math.MaxInt, math.MinInt} {
		if l := s.With(num); len(l) != 0 {
			t.Errorf("With(%d): %v", num, l)
		}
	}
	if s.Len() != 1 || !slices.Equal(s.With(0), []int{1}) || !slices.Equal(s.With(3), []int{1}) {
		t.Errorf("the one that is there: %v", s.All())
	}
}

// 14.2: a nil store.
func TestNil(t *testing.T) {
	var s *Store
	if id, e := s.Add(one(1, 1, 1)); id != 0 || e != api.ErrArg {
		t.Errorf("Add: %d, %v", id, e)
	}
	if x, is := s.Get(1); is || !reflect.DeepEqual(x, api.Entry{}) {
		t.Errorf("Get: %v", x)
	}
	if e := s.Drop(1); e != api.ErrArg {
		t.Errorf("Drop: %v", e)
	}
	if len(s.DropPeer(1))+len(s.All())+len(s.Of(1))+len(s.With(1))+s.Len()+s.Room() != 0 {
		t.Errorf("a nil store has something")
	}
}

// 14.3: what is handed in, and what is answered, shares no memory with what is kept.
func TestMemory(t *testing.T) {
	s := New(3)
	idx := []int{1, 2, 3}
	s.Add(one(1, 1, idx...))
	s.Add(api.Entry{Peer: 1, Head: api.Head{Seed: 2}, Idx: idx[:2], Data: "a"})
	idx[0], idx[1] = 0, 100
	want := [][]int{{1, 2, 3}, {1, 2}}
	check := func(what string) {
		for k, l := range want {
			if x, _ := s.Get(k + 1); !slices.Equal(x.Idx, l) {
				t.Errorf("behind a change of %s: %v, want %v", what, x.Idx, l)
			}
		}
	}
	check("what was handed in")
	x, _ := s.Get(1)
	x.Idx[0] = 0
	check("what Get answered")
	all := s.All()
	_ = append(all[0].Idx, 7)
	all[0].Idx[2] = 9
	check("what All answered")
	if !slices.Equal(all[1].Idx, want[1]) {
		t.Errorf("entries of an answer share memory: %v", all)
	}
	for _, l := range [][]int{s.Of(1), s.With(1)} {
		l[0], l[1] = 9, 9
	}
	if !slices.Equal(s.Of(1), []int{1, 2}) || !slices.Equal(s.With(1), []int{1, 2}) {
		t.Errorf("Of, With: %v, %v", s.Of(1), s.With(1))
	}
}

// list is a store as a list of entries: what the document says, without a map.
type list struct {
	room, last int
	all        []api.Entry
}

func (l *list) add(x api.Entry) (int, api.Errno) {
	if slices.ContainsFunc(l.all, func(y api.Entry) bool { return y.Peer == x.Peer && y.Head == x.Head }) {
		return 0, api.ErrThere
	}
	if len(l.all) == l.room {
		return 0, api.ErrFull
	}
	l.last++
	x.ID = l.last
	l.all = append(l.all, x)
	return x.ID, api.OK
}

// numbers are those of the entries that are so.
func (l *list) numbers(is func(x api.Entry) bool) []int {
	var ids []int
	for _, x := range l.all {
		if is(x) {
			ids = append(ids, x.ID)
		}
	}
	return ids
}

func (l *list) drop(is func(x api.Entry) bool) []int {
	ids := l.numbers(is)
	l.all = slices.DeleteFunc(l.all, is)
	return ids
}

// deed does one thing to both, and tells whether they answer alike.
func deed(s *Store, l *list, r *rand.Rand) bool {
	peer, id := 1+r.Intn(4), r.Intn(l.last+2)
	switch r.Intn(12) {
	case 0:
		return slices.Equal(s.DropPeer(peer), l.drop(func(x api.Entry) bool { return x.Peer == peer }))
	case 1, 2, 3:
		gone := l.drop(func(x api.Entry) bool { return x.ID == id })
		e := s.Drop(id)
		return len(gone) == 1 && e == api.OK || len(gone) == 0 && e == api.ErrNone
	}
	x := api.Entry{ID: r.Intn(9), Peer: peer, Head: api.Head{Mode: r.Intn(2), Seed: r.Intn(6)}, Idx: slices.Sorted(slices.Values(r.Perm(8)[:1+r.Intn(4)])), Data: string(rune('a' + r.Intn(26)))}
	wantID, want := l.add(x)
	got, e := s.Add(x)
	return got == wantID && e == want
}

// 14.1 to 14.3: held against a list; there are never more than there is room for.
func TestAgainstList(t *testing.T) {
	r := rand.New(rand.NewSource(1))
	for range 60 {
		room := 1 + r.Intn(20)
		s, l := New(room), &list{room: room}
		for k := range 200 {
			if !deed(s, l, r) {
				t.Fatalf("deed %d of room %d: it answers otherwise than a list", k, room)
			}
			if !slices.EqualFunc(s.All(), l.all, func(a, b api.Entry) bool { return reflect.DeepEqual(a, b) }) || s.Len() != len(l.all) || s.Len() > room || s.Room() != room {
				t.Fatalf("deed %d: %v is kept, want %v", k, s.All(), l.all)
			}
			n := r.Intn(9)
			if !slices.Equal(s.Of(n), l.numbers(func(x api.Entry) bool { return x.Peer == n })) || !slices.Equal(s.With(n), l.numbers(func(x api.Entry) bool { return slices.Contains(x.Idx, n) })) {
				t.Fatalf("deed %d: Of, With %d: %v, %v", k, n, s.Of(n), s.With(n))
			}
			if x, is := s.Get(n); is != slices.ContainsFunc(l.all, func(y api.Entry) bool { return reflect.DeepEqual(x, y) }) {
				t.Fatalf("deed %d: Get %d: %v", k, n, x)
			}
		}
	}
}

// 14.3: as many as there may be, and no more.
func TestFull(t *testing.T) {
	s := New(400)
	for k := range 500 {
		id, e := s.Add(one(1+k%15, k, k%160))
		if k < 400 && (id != k+1 || e != api.OK) || k >= 400 && (id != 0 || e != api.ErrFull) {
			t.Errorf("Add %d: %d, %v", k, id, e)
		}
	}
	if s.Len() != 400 || len(s.Of(1)) != 27 || len(s.With(0)) != 3 {
		t.Errorf("%d are kept", s.Len())
	}
}
