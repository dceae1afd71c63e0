package audit

import (
	"math/rand"
	"slices"
	"strings"
	"testing"

	"mosaic/api"
	"mosaic/bits"
	"mosaic/inner"
	"mosaic/manifest"
	"mosaic/merkle"
	"mosaic/swarm"
	"mosaic/wire"
)

// why is the reason for which a datagram is wrong, by the chapter's words; 0, if there is none.
func why(m api.Manifest, whole []string, g api.Gram) int {
	x, e := wire.Read(g.Text)
	if g.From < 1 || g.From > 15 || g.To < 1 || g.To > 15 || g.From == g.To || e != api.OK {
		return 1
	}
	switch x.Kind {
	case api.MsgHello:
		if x.Name != manifest.Name(m) {
			return 2
		}
	case api.MsgOffer:
		if manifest.Text(x.M) != manifest.Text(m) {
			return 7
		}
	case api.MsgHave:
		if _, e := bits.List(len(whole), x.Have); x.Have != "" && e != api.OK {
			return 3
		}
	case api.MsgCheck:
		idx, e := inner.Index(m, x.Head)
		if e != api.OK {
			return 4
		}
		sum := make([]byte, m.Size)
		for _, i := range idx {
			for k := range sum {
				sum[k] ^= whole[i][k]
			}
		}
		if string(sum) != x.Data {
			return 5
		}
	case api.MsgProof:
		if x.Num >= len(whole) {
			return 6
		}
		if path, _ := merkle.Path(whole, x.Num); x.Digest != merkle.Leaf(whole[x.Num]) || !slices.Equal(path, x.Path) {
			return 6
		}
	}
	return 0
}

// lies are datagrams that a liar may send: false ones of each kind, and such as say nothing.
func lies(t *testing.T, m api.Manifest, whole []string) []string {
	t.Helper()
	o, others := publish(t, "another file")
	l := []string{
		"", "lie", wire.Text(api.Msg{Kind: api.MsgHello, Name: manifest.Name(o)}), wire.Text(api.Msg{Kind: api.MsgOffer, M: o}), wire.Text(api.Msg{Kind: api.MsgHave, Have: strings.Repeat("\xff", 20)}),
		wire.Text(api.Msg{Kind: api.MsgCheck, Head: api.Head{Mode: api.ModeOne, Seed: len(whole)}, Data: "lie"}),
	}
	for i := range whole {
		l = append(l, wire.Text(api.Msg{Kind: api.MsgCheck, Head: api.Head{Mode: api.ModeOne, Seed: i}, Data: "lie"}), wire.Text(api.Msg{Kind: api.MsgCheck, Head: api.Head{Seed: i}, Data: "lie"}))
	}
	for i := range others {
		l = append(l, wire.Text(proof(t, others, i)))
	}
	for _, g := range fair(t, m, whole) {
		l = append(l, g.Text)
	}
	return l
}

// 24.1: datagrams of all kinds, spoilt here and there, against the chapter's words.
func TestModel(t *testing.T) {
	r := rand.New(rand.NewSource(24))
	m, whole := hello(t)
	texts := lies(t, m, whole)
	count := map[int]int{}
	for range 300 {
		var l []api.Gram
		var want []api.Finding
		for range r.Intn(20) {
			g := api.Gram{From: r.Intn(17), To: r.Intn(17), Text: texts[r.Intn(len(texts))]}
			if r.Intn(3) == 0 && len(g.Text) > 0 {
				b := []byte(g.Text)
				b[r.Intn(len(b))] ^= 1 << r.Intn(8)
				g.Text = string(b)
			}
			w := why(m, whole, g)
			if count[w]++; w != 0 {
				want = append(want, api.Finding{At: len(l), From: g.From, Why: w})
			}
			l = append(l, g)
		}
		needFound(t, "chance", m, whole, l, want...)
	}
	for w := range 8 {
		if count[w] == 0 {
			t.Errorf("nothing was wrong for the reason %d", w)
		}
	}
}

// 24.3: what nodes send is not wrong, whoever lies, whatever is lost or doubled; who is found is a liar; a wrong datagram more is a finding more.
func TestSwarm(t *testing.T) {
	r := rand.New(rand.NewSource(25))
	kinds := [12]int{}
	for range 25 {
		s := api.Setup{
			File: "hello, world", Size: 3, Seed: 9, Code: code(), Roles: []int{api.RoleOwns}, Places: []api.Place{{}},
			Config: api.Config{Room: 5 + r.Intn(11), Timeout: 20 + r.Intn(60), Slots: r.Intn(5), Quota: 1 + r.Intn(26), Out: 50 + r.Intn(251)},
		}
		for i := range 2 + r.Intn(4) {
			s.Roles, s.Places = append(s.Roles, 1+(i+r.Intn(2))%3), append(s.Places, api.Place{X: i})
		}
		x := swarm.New(s)
		m, whole := x.Manifest(), x.Node(1).Whole()
		texts := lies(t, m, whole)
		node := func() int { return 1 + r.Intn(len(s.Roles)) }
		var told []api.Gram
		for range 400 {
			d := []api.Deed{
				{Kind: api.DeedCome, I: r.Intn(99)}, {Kind: api.DeedCome}, {Kind: api.DeedCome}, {Kind: api.DeedLose, I: r.Intn(99)}, {Kind: api.DeedTwice, I: r.Intn(99)},
				{Kind: api.DeedTick, Node: node(), I: r.Intn(99)}, {Kind: api.DeedGreet, Node: node(), To: node()}, {Kind: api.DeedLie, Node: node(), To: node(), Text: texts[r.Intn(len(texts))]},
			}[r.Intn(8)]
			if x.Do(d) == api.OK && d.Kind == api.DeedLie {
				told = append(told, api.Gram{From: d.Node, To: d.To, Text: d.Text})
			}
		}
		x.Calm()
		sent := x.Sent()
		needFound(t, "what nodes sent", m, whole, sent)
		liars, e := Liars(m, whole, append(sent, told...))
		for _, i := range liars {
			if s.Roles[i-1] != api.RoleLies {
				t.Errorf("%d is found, and is no liar", i)
			}
		}
		if e != api.OK {
			t.Errorf("Liars: %v", e)
		}
		needOneMore(t, r, m, whole, append(sent, told...), api.Gram{From: 7, To: 1, Text: texts[r.Intn(6)]})
		for i, n := range Kinds(sent) {
			kinds[i] += n
		}
	}
	for i, n := range kinds {
		if said := i != 0 && i != api.MsgPing && i != api.MsgBye; said != (n > 0) {
			t.Errorf("of the kind %d nodes sent %d", i, n)
		}
	}
}

// needOneMore asks that a wrong datagram more, wherever it stands, is a finding more.
func needOneMore(t *testing.T, r *rand.Rand, m api.Manifest, whole []string, l []api.Gram, wrong api.Gram) {
	t.Helper()
	found, _ := Check(m, whole, l)
	at := r.Intn(len(l) + 1)
	want := []api.Finding{{At: at, From: wrong.From, Why: why(m, whole, wrong)}}
	for _, f := range found {
		if f.At >= at {
			f.At++
		}
		want = append(want, f)
	}
	slices.SortFunc(want, func(a, b api.Finding) int { return a.At - b.At })
	needFound(t, "one more", m, whole, slices.Insert(slices.Clone(l), at, wrong), want...)
}

// R1: any manifest, whole and datagrams.
func TestAny(t *testing.T) {
	m, whole := hello(t)
	l := []api.Gram{{}, {From: 1, To: 2, Text: long(1 << 17)}, {From: 1, To: 2, Text: "\x06\x02"}}
	for _, m := range []api.Manifest{{}, m, {Long: -1, Size: 1 << 40, Root: "root"}, {Long: 12, Size: 3, Code: code(), Root: m.Root}} {
		for _, w := range [][]string{nil, {}, whole, {""}, make([]string, 1000)} {
			Check(m, w, l)
			Liars(m, w, l)
		}
	}
}
