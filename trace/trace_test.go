package trace

import (
	"math"
	"math/rand"
	"reflect"
	"slices"
	"strings"
	"testing"

	"mosaic/api"
	"mosaic/manifest"
	"mosaic/merkle"
	"mosaic/node"
	"mosaic/wire"
)

func take(from int, text string) api.Event {
	return api.Event{Kind: api.EventTake, N: from, Text: text}
}

func tick(lot int) api.Event {
	return api.Event{Kind: api.EventTick, N: lot}
}

func greet(node int) api.Event {
	return api.Event{Kind: api.EventGreet, N: node}
}

// right are events that may be, at their edges.
func right() []api.Event {
	return []api.Event{tick(0), tick(1), tick(5), tick(65535), greet(1), greet(15), greet(2), take(1, ""), take(15, "x"), take(3, strings.Repeat("y", 400)), take(9, "\x00\xff")}
}

// wrong are events that may not be.
func wrong() []api.Event {
	l := []api.Event{{}, {N: 1}, {Kind: 4, N: 1}, {Kind: -1, N: 1}, {Kind: 256 + 1, N: 1}, {Kind: math.MaxInt, N: 1}, {Kind: math.MinInt, N: 1}}
	for _, n := range []int{0, -1, 16, 256 + 1, 65536 + 1, math.MaxInt, math.MinInt} {
		l = append(l, take(n, "x"), greet(n))
	}
	for _, n := range []int{-1, 65536, math.MaxInt, math.MinInt} {
		l = append(l, tick(n))
	}
	long := strings.Repeat("x", 401)
	return append(l, take(1, long), take(1, strings.Repeat("x", 70000)), api.Event{Kind: api.EventTick, N: 1, Text: "x"}, api.Event{Kind: api.EventGreet, N: 1, Text: "\x00"})
}

// many is so many events of one kind.
func many(x api.Event, count int) []api.Event {
	return slices.Repeat([]api.Event{x}, count)
}

// written is the bytes of a trace, by the chapter's words.
func written(l ...api.Event) string {
	b := append([]byte("trc1"), byte(len(l)>>8), byte(len(l)))
	for _, x := range l {
		b = append(b, byte(x.Kind), byte(x.N>>8), byte(x.N))
		if x.Kind == api.EventTake {
			b = append(b, byte(len(x.Text)>>8), byte(len(x.Text)))
			b = append(b, x.Text...)
		}
	}
	return string(b)
}

// 32.1: which events are a trace.
func TestCheck(t *testing.T) {
	for _, l := range [][]api.Event{nil, {}, right(), many(tick(3), 499), many(take(15, strings.Repeat("y", 400)), 500)} {
		if !Check(l) {
			t.Errorf("%d events are no trace", len(l))
		}
	}
	for _, x := range right() {
		if !Check([]api.Event{x}) {
			t.Errorf("%v is no trace", x)
		}
	}
	for _, x := range wrong() {
		for _, l := range [][]api.Event{{x}, append(right(), x), append([]api.Event{x}, right()...)} {
			if Check(l) {
				t.Errorf("%v is a trace", l)
			}
		}
	}
	if Check(many(tick(3), 501)) || Check(many(tick(3), 65536)) {
		t.Errorf("too many events are a trace")
	}
}

// 32.1: the example, and others.
func TestPack(t *testing.T) {
	if s, e := Pack([]api.Event{tick(5)}); s != "trc1\x00\x01\x02\x00\x05" || e != api.OK {
		t.Errorf("Pack: %x, %v", s, e)
	}
	if s, e := Pack([]api.Event{tick(258), take(3, "ab"), greet(15), take(1, "")}); s != "trc1\x00\x04\x02\x01\x02\x01\x00\x03\x00\x02ab\x03\x00\x0f\x01\x00\x01\x00\x00" || e != api.OK {
		t.Errorf("Pack: %x, %v", s, e)
	}
	for _, l := range [][]api.Event{nil, {}, right(), many(greet(7), 500), many(take(2, strings.Repeat("z", 126)), 500)} {
		s, e := Pack(l)
		if e != api.OK || s != written(l...) {
			t.Errorf("Pack of %d events: %d bytes, %v", len(l), len(s), e)
		}
		got, e := Unpack(s)
		if e != api.OK || !slices.Equal(got, l) {
			t.Errorf("Unpack of %d events: %d, %v", len(l), len(got), e)
		}
	}
}

// 32.1: ErrArg, and ErrLong of more than 65,536 bytes.
func TestPackOfWrong(t *testing.T) {
	for _, x := range wrong() {
		if s, e := Pack(append(right(), x)); s != "" || e != api.ErrArg {
			t.Errorf("Pack of %v: %x, %v", x, s, e)
		}
	}
	if s, e := Pack(many(tick(1), 501)); s != "" || e != api.ErrArg {
		t.Errorf("Pack of 501: %d bytes, %v", len(s), e)
	}
	// 6 bytes, 161 times 405, and what is left, with 5 ahead of a text's bytes
	l := append(many(take(1, strings.Repeat("x", 400)), 161), take(2, strings.Repeat("y", 320)))
	if s, e := Pack(l); len(s) != api.MaxData || e != api.OK {
		t.Errorf("Pack of the longest one: %d bytes, %v", len(s), e)
	}
	l[161].Text += "y"
	if s, e := Pack(l); s != "" || e != api.ErrLong {
		t.Errorf("Pack of one more: %d bytes, %v", len(s), e)
	}
	l[0].N = 0
	if _, e := Pack(l); e != api.ErrArg {
		t.Errorf("Pack of one that is too long, and may not be: %v", e)
	}
	if s, e := Pack(many(take(1, strings.Repeat("x", 400)), 500)); s != "" || e != api.ErrLong {
		t.Errorf("Pack of the most: %d bytes, %v", len(s), e)
	}
}

// 32.1: the bytes of a trace are unpacked, also of one that is too long to be packed.
func TestUnpackOfLong(t *testing.T) {
	l := many(take(1, strings.Repeat("x", 400)), 500)
	if got, e := Unpack(written(l...)); e != api.OK || !slices.Equal(got, l) {
		t.Errorf("Unpack: %d events, %v", len(got), e)
	}
}

// 32.1, 32.4: what is the bytes of no trace.
func TestUnpackOfWrong(t *testing.T) {
	need := func(what, s string) {
		t.Helper()
		if l, e := Unpack(s); e != api.ErrForm || len(l) != 0 {
			t.Errorf("%s: %v, %v", what, l, e)
		}
	}
	s := written(right()...)
	for i := range len(s) {
		need("what ends too soon", s[:i])
	}
	for _, x := range []string{s + "\x00", s + s, s[1:], "\x00" + s, "trc2" + s[4:], "TRC1" + s[4:], "trc1\xff\xff", "trc1\x00\x00\x00"} {
		need("no trace", x)
	}
	for _, x := range wrong() {
		hasBytes := 0 <= x.Kind && x.Kind < 256 && 0 <= x.N && x.N < 65536 && len(x.Text) < 65536
		if hasBytes && (x.Kind == api.EventTake || x.Text == "") {
			need("an event that may not be", written(append(right(), x)...))
		}
	}
	need("another kind, of the size of a tick", "trc1\x00\x02\x04\x00\x01\x02\x00\x01")
	need("more events than it says", "trc1\x00\x01"+"\x02\x00\x05\x02\x00\x05")
	need("fewer events than it says", "trc1\x00\x03"+"\x02\x00\x05\x02\x00\x05")
	need("too many events", written(many(tick(1), 501)...))
	need("far too many", written(many(tick(1), 65535)...))
}

// 32.4: what is packed is unpacked as it was; other bytes are other traces, or none.
func TestOneWayAlone(t *testing.T) {
	r := rand.New(rand.NewSource(32))
	read := 0
	for range 3000 {
		var l []api.Event
		for range r.Intn(6) {
			l = append(l, right()[r.Intn(9)])
		}
		s, e := Pack(l)
		if got, f := Unpack(s); e != api.OK || f != api.OK || !slices.Equal(got, l) {
			t.Fatalf("%v: %x, %v, %v, %v", l, s, e, got, f)
		}
		b := []byte(s)
		b[r.Intn(len(b))] ^= 1 << r.Intn(8)
		got, e := Unpack(string(b))
		if e != api.OK {
			continue
		}
		read++
		if again, e := Pack(got); again != string(b) || e != api.OK || slices.Equal(got, l) {
			t.Errorf("%x is %v, which is %x", b, got, again)
		}
	}
	if read < 100 {
		t.Errorf("%d were read: take others", read)
	}
}

func published(t *testing.T) (api.Manifest, []string) {
	t.Helper()
	m, w, e := manifest.Publish("hi", manifest.Want{Size: 2, Code: api.Code{Eps: api.Ratio{N: 1, D: 2}, Q: 1, F: 4}})
	if e != api.OK {
		t.Fatal(e)
	}
	return m, w
}

func start(t *testing.T) Start {
	m, _ := published(t)
	return Start{Me: 1, At: api.Place{X: 8, Y: -9}, Config: api.Config{Room: 3, Timeout: 50, Slots: 1, Quota: 5, Out: 50}, M: m}
}

// story is what happens to a node until it is done, behind the event 7, and then some more.
func story(t *testing.T) []api.Event {
	m, w := published(t)
	say := func(x api.Msg) api.Event { return take(2, wire.Text(x)) }
	path, _ := merkle.Path(w, 0)
	return []api.Event{
		greet(2),
		greet(1),
		say(api.Msg{Kind: api.MsgHello, Name: manifest.Name(m)}),
		say(api.Msg{Kind: api.MsgCheck, Head: api.Head{Mode: api.ModeOne}, Data: "hi"}),
		tick(3),
		take(3, "\xff"),
		say(api.Msg{Kind: api.MsgProof, Digest: merkle.Leaf("hi"), Path: path}),
		tick(0),
		take(2, wire.Text(api.Msg{Kind: api.MsgPing})),
	}
}

// byHand does a story without this package.
func byHand(t *testing.T, s Start, l []api.Event) Played {
	t.Helper()
	n := node.New(s.Me, s.At, s.Config)
	if e := n.Fetch(s.M); e != api.OK {
		t.Fatal(e)
	}
	p := Played{Node: n}
	for _, x := range l {
		switch x.Kind {
		case api.EventTake:
			p.Errors = append(p.Errors, n.Take(x.N, x.Text))
		case api.EventTick:
			p.Errors = append(p.Errors, n.Tick(x.N))
		case api.EventGreet:
			p.Errors = append(p.Errors, n.Greet(x.N))
		}
		p.Sent = append(p.Sent, n.Out()...)
	}
	return p
}

// 32.2: what was answered, and what went out, in order.
func TestReplay(t *testing.T) {
	s, l := start(t), story(t)
	p, e := Replay(s, l)
	if e != api.OK || !p.Node.Done() || p.Node.Time() != 2 || len(p.Node.Out()) != 0 {
		t.Fatalf("Replay: %v, %v", p, e)
	}
	if want := []api.Errno{api.OK, api.ErrArg, api.OK, api.OK, api.OK, api.ErrForm, api.OK, api.OK, api.OK}; !slices.Equal(p.Errors, want) {
		t.Errorf("answers: %v, want %v", p.Errors, want)
	}
	want := byHand(t, s, l)
	if len(p.Sent) < 5 || !slices.Equal(p.Sent, want.Sent) || !reflect.DeepEqual(p.Node, want.Node) {
		t.Errorf("it sends %v, want %v", p.Sent, want.Sent)
	}
	if m, is := p.Node.Manifest(); m != s.M || !is {
		t.Errorf("Manifest: %v", m)
	}
	p, e = Replay(s, nil)
	if e != api.OK || p.Node == nil || len(p.Errors) != 0 || len(p.Sent) != 0 {
		t.Errorf("Replay of nothing: %v, %v", p, e)
	}
}

// 32.2: what waits is taken behind each event, so that there is room for what the next one sends.
func TestReplayTakesOut(t *testing.T) {
	s := start(t)
	s.Config.Out = 1
	l := many(greet(2), 30)
	p, e := Replay(s, l)
	if e != api.OK || len(p.Sent) != 30 || p.Node.Drops(api.ErrFull) != 0 {
		t.Errorf("it sends %d, %d are dropped, %v", len(p.Sent), p.Node.Drops(api.ErrFull), e)
	}
	for lot := range 20 {
		l = append(l, tick(lot))
	}
	if p, e = Replay(s, l); e != api.OK || p.Node.Time() != 20 || len(p.Sent) != 35 {
		t.Errorf("it sends %d, %v", len(p.Sent), e)
	}
}

// 32.2: a tick's lot is its number.
func TestReplayOfLots(t *testing.T) {
	s := start(t)
	s.Config.Slots = 0
	var l []api.Event
	for _, from := range []int{4, 5, 6} {
		l = append(l, take(from, wire.Text(api.Msg{Kind: api.MsgHello, Name: manifest.Name(s.M)})), take(from, wire.Text(api.Msg{Kind: api.MsgWant, On: true})))
	}
	for lot := range 9 {
		p, e := Replay(s, append(slices.Clone(l), tick(7), tick(7), tick(7), tick(lot)))
		open := slices.IndexFunc(p.Node.Peers(), func(p api.Peer) bool { return p.Open })
		if e != api.OK || open != lot%3 {
			t.Errorf("the lot %d opens %d, %v", lot, open, e)
		}
	}
}

// starts are starts of which there is no node, or none that can fetch.
func starts(t *testing.T) []Start {
	l := []Start{{}}
	for _, change := range []func(s *Start){
		func(s *Start) { s.Me = 0 },
		func(s *Start) { s.Me = 16 },
		func(s *Start) { s.At.X = api.MaxPlace + 1 },
		func(s *Start) { s.Config.Out = 0 },
		func(s *Start) { s.Config.Quota = 27 },
		func(s *Start) { s.M = api.Manifest{} },
		func(s *Start) { s.M.Root = s.M.Root[1:] },
	} {
		s := start(t)
		change(&s)
		l = append(l, s)
	}
	return l
}

// 32.2: ErrArg, of Replay and Until.
func TestReplayOfWrong(t *testing.T) {
	need := func(s Start, l []api.Event) {
		t.Helper()
		p, e := Replay(s, l)
		if e != api.ErrArg || p.Node != nil || p.Errors != nil || p.Sent != nil {
			t.Errorf("Replay: %v, %v", p, e)
		}
		n, e := Until(s, l)
		if e != api.ErrArg || n != 0 {
			t.Errorf("Until: %d, %v", n, e)
		}
	}
	for _, s := range starts(t) {
		need(s, nil)
		need(s, story(t))
	}
	for _, x := range wrong() {
		need(start(t), append(story(t), x))
	}
	need(start(t), many(tick(0), 501))
}

// 32.2: the event behind which a node is done.
func TestUntil(t *testing.T) {
	s, l := start(t), story(t)
	for k := range len(l) + 1 {
		n, e := Until(s, l[:k])
		if k < 7 && (n != 0 || e != api.ErrNone) || k >= 7 && (n != 7 || e != api.OK) {
			t.Errorf("Until of %d events: %d, %v", k, n, e)
		}
	}
	l = append(many(tick(1), 491), l...)
	if n, e := Until(s, l); n != 498 || e != api.OK {
		t.Errorf("Until of the longest: %d, %v", n, e)
	}
	if n, e := Until(s, nil); n != 0 || e != api.ErrNone {
		t.Errorf("Until of nothing: %d, %v", n, e)
	}
}

// 32.3: as far as there are such events.
func TestPart(t *testing.T) {
	l := right()
	for from := -3; from <= len(l)+3; from++ {
		for to := -3; to <= len(l)+3; to++ {
			var want []api.Event
			for i, x := range l {
				if from <= i && i < to {
					want = append(want, x)
				}
			}
			if got := Part(l, from, to); !slices.Equal(got, want) || len(want) == 0 && got != nil {
				t.Errorf("Part(%d, %d): %v, want %v", from, to, got, want)
			}
		}
	}
	if got := Part(l, math.MinInt, math.MaxInt); !slices.Equal(got, l) {
		t.Errorf("Part of all: %v", got)
	}
	if Part(l, math.MaxInt, math.MinInt) != nil || Part(nil, 0, 1) != nil {
		t.Errorf("there is a part of nothing")
	}
	if got := Part(wrong(), 0, 1000); len(got) != len(wrong()) {
		t.Errorf("Part of what is no trace: %v", got)
	}
	Part(l, 1, 3)[0] = take(9, "other")
	if !slices.Equal(l, right()) {
		t.Errorf("a part is no copy")
	}
}

// 32.3: how many there are of each kind; at 0 the others.
func TestKinds(t *testing.T) {
	for _, x := range []struct {
		l    []api.Event
		want [4]int
	}{
		{nil, [4]int{}},
		{right(), [4]int{0, 4, 4, 3}},
		{[]api.Event{{}, {Kind: 4}, {Kind: -1}, {Kind: math.MaxInt}, {Kind: math.MinInt}, tick(-1), greet(0)}, [4]int{5, 0, 1, 1}},
		{many(take(99, "x"), 1000), [4]int{0, 1000}},
	} {
		if got := Kinds(x.l); got != x.want {
			t.Errorf("Kinds: %v, want %v", got, x.want)
		}
	}
}

// 32.4: a trace replayed twice is the same, and a beginning of it tells a beginning of what it tells.
func TestBeginnings(t *testing.T) {
	s, l := start(t), story(t)
	for lot := range 20 {
		l = append(l, tick(lot), greet(3+lot%2))
	}
	whole, e := Replay(s, l)
	if e != api.OK {
		t.Fatal(e)
	}
	for k := range len(l) + 1 {
		p, e := Replay(s, Part(l, 0, k))
		again, f := Replay(s, l[:k])
		if e != api.OK || f != api.OK || !reflect.DeepEqual(p, again) {
			t.Errorf("%d events, replayed twice, are unlike", k)
		}
		if len(p.Errors) != k || !slices.Equal(p.Errors, whole.Errors[:k]) || !slices.Equal(p.Sent, whole.Sent[:len(p.Sent)]) {
			t.Errorf("%d events tell %v, %v", k, p.Errors, p.Sent)
		}
	}
}

// 32.2: what is handed in is not changed.
func TestNotChanged(t *testing.T) {
	s, l := start(t), story(t)
	Check(l)
	Pack(l)
	Replay(s, l)
	Until(s, l)
	Kinds(l)
	if !slices.Equal(l, story(t)) {
		t.Errorf("the events are changed: %v", l)
	}
}
