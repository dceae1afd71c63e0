package audit

import (
	"slices"
	"strings"
	"testing"

	"mosaic/api"
	"mosaic/inner"
	"mosaic/manifest"
	"mosaic/merkle"
	"mosaic/wire"
)

// code is the code of all files here.
func code() api.Code {
	return api.Code{Eps: api.Ratio{N: 1, D: 2}, Q: 2, F: 4}
}

// publish is a manifest of blocks of 3 bytes, and the whole that it owns.
func publish(t *testing.T, file string) (api.Manifest, []string) {
	t.Helper()
	m, whole, e := manifest.Publish(file, manifest.Want{Size: 3, Seed: 9, Code: code()})
	if e != api.OK {
		t.Fatalf("Publish: %v", e)
	}
	return m, whole
}

// hello is the truth of most tests: 4 blocks and 3 auxiliary ones.
func hello(t *testing.T) (api.Manifest, []string) {
	t.Helper()
	m, whole := publish(t, "hello, world")
	if manifest.All(m) != 7 || len(whole) != 7 {
		t.Fatalf("%d blocks", len(whole))
	}
	return m, whole
}

// say is a datagram from 3 to 2.
func say(x api.Msg) api.Gram {
	return api.Gram{From: 3, To: 2, Text: wire.Text(x)}
}

// proof is the message of a block's proof.
func proof(t *testing.T, whole []string, i int) api.Msg {
	t.Helper()
	path, e := merkle.Path(whole, i)
	if e != api.OK {
		t.Fatalf("Path: %v", e)
	}
	return api.Msg{Kind: api.MsgProof, Num: i, Digest: merkle.Leaf(whole[i]), Path: path}
}

// check is the message of the check block of a head.
func check(t *testing.T, m api.Manifest, whole []string, h api.Head) api.Msg {
	t.Helper()
	data, e := inner.Encode(m, h, whole)
	if e != api.OK {
		t.Fatalf("Encode: %v", e)
	}
	return api.Msg{Kind: api.MsgCheck, Head: h, Data: data}
}

// fair are datagrams of all kinds that say nothing false.
func fair(t *testing.T, m api.Manifest, whole []string) []api.Gram {
	t.Helper()
	l := []api.Gram{
		say(api.Msg{Kind: api.MsgHello, Place: api.Place{X: -5, Y: api.MaxPlace}, Name: manifest.Name(m)}),
		say(api.Msg{Kind: api.MsgHave}), say(api.Msg{Kind: api.MsgHave, Have: "\x00"}), say(api.Msg{Kind: api.MsgHave, Have: "\x7f"}), say(api.Msg{Kind: api.MsgHave, Have: "\x05"}),
		say(api.Msg{Kind: api.MsgWant}), say(api.Msg{Kind: api.MsgWant, On: true}), say(api.Msg{Kind: api.MsgChoke}), say(api.Msg{Kind: api.MsgOpen}),
		say(check(t, m, whole, api.Head{Mode: api.ModeAll, Seed: api.MaxSeed})), say(check(t, m, whole, api.Head{Mode: api.ModeSome, Seed: 3, Have: "\x54"})), say(check(t, m, whole, api.Head{Mode: api.ModeOne, Seed: 6})),
		say(api.Msg{Kind: api.MsgAsk, Num: 6}), say(api.Msg{Kind: api.MsgAsk, Num: api.MaxAll - 1}), // of a question nothing is wrong
		say(api.Msg{Kind: api.MsgOffer, M: m}), say(api.Msg{Kind: api.MsgPing}), say(api.Msg{Kind: api.MsgBye}),
	}
	for i := range whole {
		l = append(l, say(proof(t, whole, i)), say(check(t, m, whole, api.Head{Mode: api.ModeOne, Seed: i})), say(check(t, m, whole, api.Head{Seed: i})))
	}
	for _, g := range l {
		if g.Text == "" {
			t.Fatalf("no message: %v", g)
		}
	}
	return l
}

// needFound asks for just these findings.
func needFound(t *testing.T, what string, m api.Manifest, whole []string, l []api.Gram, want ...api.Finding) {
	t.Helper()
	got, e := Check(m, whole, l)
	if e != api.OK || !slices.Equal(got, want) {
		t.Errorf("%s: %v, %v, want %v", what, got, e, want)
	}
	var liars []int
	for _, f := range want {
		liars = append(liars, f.From)
	}
	slices.Sort(liars)
	liars = slices.Compact(liars)
	if got, e := Liars(m, whole, l); e != api.OK || !slices.Equal(got, liars) {
		t.Errorf("%s: the liars %v, %v, want %v", what, got, e, liars)
	}
}

// needWhy asks for the reason for which one datagram is wrong; 0, if it is not; it stands among fair ones.
func needWhy(t *testing.T, what string, g api.Gram, why int) {
	t.Helper()
	m, whole := hello(t)
	ahead := say(api.Msg{Kind: api.MsgPing})
	l := []api.Gram{ahead, g, ahead}
	if why == 0 {
		needFound(t, what, m, whole, l)
		return
	}
	needFound(t, what, m, whole, l, api.Finding{At: 1, From: g.From, Why: why})
}

// other is a text in which one byte is another one.
func other(s string, i int) string {
	return s[:i] + string([]byte{s[i] ^ 1}) + s[i+1:]
}

// long is a text of so many bytes.
func long(n int) string {
	return strings.Repeat("x", n)
}
