package audit

import (
	"math"
	"reflect"
	"slices"
	"strings"
	"testing"

	"mosaic/api"
	"mosaic/inner"
	"mosaic/manifest"
	"mosaic/merkle"
	"mosaic/sha"
	"mosaic/wire"
)

// 24.1: what says nothing false is not found.
func TestFair(t *testing.T) {
	m, whole := hello(t)
	needFound(t, "nothing", m, whole, nil)
	needFound(t, "nothing", m, whole, []api.Gram{})
	needFound(t, "fair ones", m, whole, fair(t, m, whole))
}

// 24.1: From and To.
func TestWhyFormNodes(t *testing.T) {
	text := wire.Text(api.Msg{Kind: api.MsgPing})
	for _, from := range []int{math.MinInt, -1, 0, 1, 2, 14, 15, 16, 1 << 32, math.MaxInt} {
		for _, to := range []int{math.MinInt, -1, 0, 1, 2, 14, 15, 16, 1<<32 + 1, math.MaxInt} {
			why := api.WhyForm
			if from >= 1 && from <= 15 && to >= 1 && to <= 15 && from != to {
				why = 0
			}
			needWhy(t, "from and to", api.Gram{From: from, To: to, Text: text}, why)
			needWhy(t, "no message", api.Gram{From: from, To: to, Text: "?"}, api.WhyForm)
		}
	}
}

// 24.1: texts that are no message.
func TestWhyFormTexts(t *testing.T) {
	m, whole := hello(t)
	for _, g := range fair(t, m, whole) {
		for _, text := range []string{g.Text + "\x00", g.Text[:len(g.Text)-1], "\x0c" + g.Text, "\x00" + g.Text[1:], "\x0c" + g.Text[1:]} {
			if _, e := wire.Read(text); e != api.OK { // else it is another message
				needWhy(t, "no message", api.Gram{From: 3, To: 2, Text: text}, api.WhyForm)
			}
		}
	}
	for _, text := range []string{"", "\x00", "\x0c", "\xff", "hello", long(api.MaxGram), long(api.MaxGram + 1), long(api.MaxData + 1)} {
		needWhy(t, "no message", api.Gram{From: 3, To: 2, Text: text}, api.WhyForm)
	}
}

// 24.1: other names and manifests.
func TestWhyNameAndOffer(t *testing.T) {
	m, _ := hello(t)
	name := manifest.Name(m)
	for i := range name {
		needWhy(t, "another name", say(api.Msg{Kind: api.MsgHello, Name: other(name, i)}), api.WhyName)
	}
	needWhy(t, "the name", say(api.Msg{Kind: api.MsgHello, Place: api.Place{X: 1}, Name: name}), 0)
	others := []api.Manifest{m, m, m, m, m, m, m}
	others[0].Long--
	others[1].Size++
	others[2].Seed++
	others[3].Code.Eps.D++
	others[4].Code.Q++
	others[5].Code.F++
	others[6].Root = other(m.Root, 31)
	for _, o := range others {
		if !manifest.Check(o) {
			t.Fatalf("%v may not be", o)
		}
		needWhy(t, "another manifest", say(api.Msg{Kind: api.MsgOffer, M: o}), api.WhyOffer)
		needWhy(t, "its name", say(api.Msg{Kind: api.MsgHello, Name: manifest.Name(o)}), api.WhyName)
	}
	needWhy(t, "the manifest", say(api.Msg{Kind: api.MsgOffer, M: m}), 0)
}

// 24.1: what is no set below All; no bytes are nothing wrong.
func TestWhyHave(t *testing.T) {
	for _, have := range []string{"\x80", "\xff", "\x00\x00", "\x01\x00", "\x7f\x00", strings.Repeat("\x00", api.MaxHave)} {
		needWhy(t, "no set below 7", say(api.Msg{Kind: api.MsgHave, Have: have}), api.WhyHave)
	}
	for i := range 128 {
		needWhy(t, "a set below 7", say(api.Msg{Kind: api.MsgHave, Have: string([]byte{byte(i)})}), 0)
	}
	needWhy(t, "no bytes", say(api.Msg{Kind: api.MsgHave}), 0)
}

// 24.1: check blocks whose head may not be, whatever their bytes are.
func TestWhyHead(t *testing.T) {
	m, whole := hello(t)
	for _, h := range []api.Head{
		{Mode: api.ModeAll, Have: "\x01"}, {Mode: api.ModeAll, Have: "\x00"}, {Mode: api.ModeSome}, {Mode: api.ModeSome, Have: "\x00"}, {Mode: api.ModeSome, Have: "\x80"}, {Mode: api.ModeSome, Have: "\x01\x00"},
		{Mode: api.ModeOne, Seed: 7}, {Mode: api.ModeOne, Seed: api.MaxSeed}, {Mode: api.ModeOne, Have: "\x01"},
	} {
		for _, data := range []string{whole[0], "xyz", "x", long(api.MaxSize)} {
			needWhy(t, "no head", say(api.Msg{Kind: api.MsgCheck, Head: h, Data: data}), api.WhyHead)
		}
		if inner.Check(m, h) != api.ErrForm {
			t.Errorf("%v may be", h)
		}
	}
}

// 24.1: check blocks of a head that may be that are not the sum.
func TestWhySum(t *testing.T) {
	m, whole := hello(t)
	for _, h := range []api.Head{{Seed: 0}, {Seed: api.MaxSeed}, {Mode: api.ModeSome, Seed: 5, Have: "\x2a"}, {Mode: api.ModeOne}, {Mode: api.ModeOne, Seed: 6}} {
		x := check(t, m, whole, h)
		needWhy(t, "the sum", say(x), 0)
		for i := range x.Data {
			y := x
			y.Data = other(x.Data, i)
			needWhy(t, "another byte", say(y), api.WhySum)
		}
		for _, data := range []string{x.Data[:2], x.Data + "\x00", x.Data[:1], long(api.MaxSize)} {
			y := x
			y.Data = data
			needWhy(t, "another length", say(y), api.WhySum)
		}
	}
}

// 24.1: proofs that do not come to the root, and such of blocks that there are not.
func TestWhyProof(t *testing.T) {
	_, whole := hello(t)
	for i := range whole {
		x := proof(t, whole, i)
		needWhy(t, "a proof", say(x), 0)
		for _, num := range []int{(i + 1) % 7, 7, 8, api.MaxAll - 1} {
			y := x
			y.Num = num
			needWhy(t, "of another block", say(y), api.WhyProof)
		}
		y := x
		y.Digest = other(x.Digest, i)
		needWhy(t, "another digest", say(y), api.WhyProof)
		y = x
		y.Path = slices.Clone(x.Path)
		y.Path[0] = other(y.Path[0], i)
		needWhy(t, "another path", say(y), api.WhyProof)
		for _, path := range [][]string{nil, x.Path[1:], x.Path[:len(x.Path)-1], append(slices.Clone(x.Path), x.Path[0])} {
			y.Path = path
			needWhy(t, "a path of another length", say(y), api.WhyProof)
		}
	}
	// A knot that comes to the root is no leaf.
	x := proof(t, whole, 0)
	x.Digest, x.Path = merkle.Knot(x.Digest, x.Path[0]), x.Path[1:]
	needWhy(t, "a knot", say(x), api.WhyProof)
}

// Example 1.
func TestExample(t *testing.T) {
	m, whole := hello(t)
	needFound(t, "another check block", m, whole, []api.Gram{say(api.Msg{Kind: api.MsgCheck, Head: api.Head{Mode: api.ModeOne}, Data: "xyz"})}, api.Finding{At: 0, From: 3, Why: api.WhySum})
}

// 24.1: findings are in the order of the datagrams, liars rise, each once, also such as are no nodes.
func TestOrder(t *testing.T) {
	m, whole := hello(t)
	lie := func(from int) api.Gram { return api.Gram{From: from, To: 1, Text: "lie"} }
	l := []api.Gram{lie(9), lie(2), say(api.Msg{Kind: api.MsgPing}), lie(9), lie(-7), lie(1), lie(99), lie(-7)}
	want := []api.Finding{{At: 0, From: 9, Why: 1}, {At: 1, From: 2, Why: 1}, {At: 3, From: 9, Why: 1}, {At: 4, From: -7, Why: 1}, {At: 5, From: 1, Why: 1}, {At: 6, From: 99, Why: 1}, {At: 7, From: -7, Why: 1}}
	needFound(t, "lies", m, whole, l, want...)
	if got, _ := Liars(m, whole, l); !slices.Equal(got, []int{-7, 1, 2, 9, 99}) {
		t.Errorf("the liars: %v", got)
	}
	slices.Reverse(l)
	for i := range want {
		want[i].At = 7 - want[i].At
	}
	slices.Reverse(want)
	needFound(t, "lies", m, whole, l, want...)
}

// 24.1: a manifest that does not own the whole.
func TestNotOwned(t *testing.T) {
	m, whole := hello(t)
	l := []api.Gram{say(api.Msg{Kind: api.MsgPing}), {From: 3, To: 2, Text: "?"}}
	need := func(what string, m api.Manifest, whole []string) {
		t.Helper()
		for _, l := range [][]api.Gram{nil, l} {
			if f, e := Check(m, whole, l); e != api.ErrArg || len(f) != 0 {
				t.Errorf("%s: Check: %v, %v", what, f, e)
			}
			if f, e := Liars(m, whole, l); e != api.ErrArg || len(f) != 0 {
				t.Errorf("%s: Liars: %v, %v", what, f, e)
			}
		}
	}
	need("nothing", api.Manifest{}, nil)
	need("no manifest", api.Manifest{}, whole)
	need("no whole", m, nil)
	need("a block less", m, whole[1:])
	need("a block less", m, whole[:6])
	need("a block more", m, append(slices.Clone(whole), "abc"))
	for i := range whole {
		k := slices.Clone(whole)
		k[i] = other(k[i], 2)
		need("another block", m, k)
		k[i] = ""
		need("an empty block", m, k)
		k[i] = whole[i] + "\x00"
		need("a long block", m, k)
	}
	o := m
	o.Root = other(m.Root, 0)
	need("another root", o, whole)
	o = m
	o.Code.Q = 0
	need("a manifest that may not be", o, whole)
}

// 24.2: how many there are of each kind, whoever they are from.
func TestKinds(t *testing.T) {
	m, whole := hello(t)
	if got := Kinds(nil); got != [12]int{} {
		t.Errorf("of none: %v", got)
	}
	if got := Kinds(fair(t, m, whole)); got != [12]int{1: 1, 2: 4, 3: 2, 4: 1, 5: 1, 6: 3 + 14, 7: 2, 8: 7, 9: 1, 10: 1, 11: 1} {
		t.Errorf("of fair ones: %v", got)
	}
	ping, lie := wire.Text(api.Msg{Kind: api.MsgPing}), wire.Text(api.Msg{Kind: api.MsgCheck, Head: api.Head{Mode: api.ModeOne, Seed: 99}, Data: "lie"})
	l := []api.Gram{{Text: ping}, {From: 2, To: 2, Text: ping}, {From: -1, To: 99, Text: lie}, {From: 3, To: 2, Text: ""}, {From: 3, To: 2, Text: ping + "\x00"}, {Text: "\x0c"}, {Text: "\x00"}}
	if got := Kinds(l); got != [12]int{0: 4, 6: 1, 10: 2} {
		t.Errorf("%v", got)
	}
}

// 24.2: the bytes from a node, and those to it, whatever they say.
func TestBytes(t *testing.T) {
	l := []api.Gram{{From: 1, To: 2, Text: "a"}, {From: 2, To: 1, Text: "bb"}, {From: 1, To: 3, Text: "cccc"}, {From: 3, To: 3, Text: long(8)}, {From: 99, To: -1, Text: long(16)}, {From: 0, To: 0, Text: long(32)}, {From: 1, To: 2, Text: ""}, {From: 1, To: 2, Text: long(1 << 17)}}
	for node, want := range map[int][2]int{
		1: {5 + 1<<17, 2}, 2: {2, 1 + 1<<17}, 3: {8, 12}, 4: {0, 0}, 99: {16, 0}, -1: {0, 16}, 0: {32, 32}, math.MaxInt: {0, 0}, math.MinInt: {0, 0},
	} {
		if sent, told := Bytes(l, node); sent != want[0] || told != want[1] {
			t.Errorf("of %d: %d, %d, want %v", node, sent, told, want)
		}
		if sent, told := Bytes(nil, node); sent != 0 || told != 0 {
			t.Errorf("of %d of none: %d, %d", node, sent, told)
		}
	}
}

// needName asks for the name of datagrams with these texts: the sum of the sums.
func needName(t *testing.T, sums string, texts ...string) {
	t.Helper()
	var l []api.Gram
	for i, s := range texts {
		l = append(l, api.Gram{From: i, To: -i, Text: s})
	}
	if got, want := Name(l), sha.Sum(sums); got != want || len(got) != 32 {
		t.Errorf("of %d texts: %x, want %x", len(texts), got, want)
	}
}

// 24.2: one sum for all texts, in their order, whoever they are from.
func TestName(t *testing.T) {
	needName(t, "")
	a, b, none := sha.Sum("a"), sha.Sum("b"), sha.Sum("")
	needName(t, none, "")
	needName(t, a, "a")
	needName(t, a+b, "a", "b")
	needName(t, b+a, "b", "a")
	needName(t, a+none+b+b, "a", "", "b", "b")
	// What is too long to be summed has no sum.
	most := long(api.MaxData)
	needName(t, a+sha.Sum(most)+b, "a", most, "b")
	needName(t, a+b, "a", most+"x", "b")
}

// 24.2: of more than 2,000 texts the first ones.
func TestNameOfMany(t *testing.T) {
	var texts []string
	sums := ""
	for i := range 2000 {
		texts = append(texts, long(i%7))
		sums += sha.Sum(texts[i])
	}
	needName(t, sums[:1998*32], texts[:1998]...)
	needName(t, sums[:1999*32], texts[:1999]...)
	needName(t, sums, texts...)
	needName(t, sums, append(slices.Clone(texts), "more")...)
	needName(t, sums, append(slices.Clone(texts), texts...)...)
}

// R3: what is handed in is not changed, and answers share nothing.
func TestShares(t *testing.T) {
	m, whole := hello(t)
	l := append(fair(t, m, whole), api.Gram{From: 9, To: 1}, api.Gram{From: 8, To: 1}, api.Gram{From: 9, To: 1})
	k, w := slices.Clone(l), slices.Clone(whole)
	a, _ := Check(m, whole, l)
	b, _ := Liars(m, whole, l)
	Kinds(l)
	Bytes(l, 1)
	Name(l)
	if !reflect.DeepEqual(l, k) || !reflect.DeepEqual(whole, w) {
		t.Error("what was handed in is changed")
	}
	a[0], b[0] = api.Finding{}, 0
	needFound(t, "once more", m, whole, l, api.Finding{At: len(l) - 3, From: 9, Why: 1}, api.Finding{At: len(l) - 2, From: 8, Why: 1}, api.Finding{At: len(l) - 1, From: 9, Why: 1})
}
