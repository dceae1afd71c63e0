package script

import (
	"fmt"
	"math/rand"
	"regexp"
	"strings"
	"testing"

	"mosaic/api"
	"mosaic/bits"
	"mosaic/inner"
	"mosaic/manifest"
	"mosaic/merkle"
	"mosaic/sha"
	"mosaic/swarm"
	"mosaic/wire"
)

// forms are the lines by the chapter's words.
func forms() map[string]*regexp.Regexp {
	number, text := `(0|-?[1-9][0-9]{0,17})`, `(-|([0-9a-f]{2})+)`
	made := map[string]*regexp.Regexp{}
	for name, form := range map[string]string{
		"file": "file BYTES", "cut": "cut N N N N N N", "node": "node (owns|fetches|seeks|lies) N N", "config": "config N N N N N",
		"deed": "((come|lose|twice) N|tick N N|greet N N|lie N N BYTES|calm)",
	} {
		form = strings.ReplaceAll(strings.ReplaceAll(form, "N", number), "BYTES", text)
		made[name] = regexp.MustCompile(`\A` + form + `\z`)
	}
	return made
}

// wrongLine is the first line that is wrong, by the chapter's words; 0, if there is none.
func wrongLine(forms map[string]*regexp.Regexp, text string) int {
	l := strings.SplitAfter(text, "\n")
	ended := l[len(l)-1] == ""
	if ended {
		l = l[:len(l)-1]
	}
	at, order, nodes := 0, []string{"file", "cut", "node"}, 0
	for i, line := range l {
		line, isEnded := strings.CutSuffix(line, "\n")
		if !isEnded {
			return i + 1
		}
		want := "deed"
		if at < len(order) {
			want = order[at]
		} else if at == len(order) {
			want = "node"
			if nodes == 8 || !forms["node"].MatchString(line) {
				want = "config"
			}
		}
		if !forms[want].MatchString(line) {
			return i + 1
		}
		if want == "node" {
			nodes++
		}
		if want != "node" || nodes == 1 {
			at++
		}
	}
	if at <= len(order) {
		return len(l) + 1
	}
	return 0
}

// spoilt is a text in which something is changed, here and there.
func spoilt(r *rand.Rand, text string) string {
	b := []byte(text)
	parts := []string{"0", "1", "-", " ", "\n", "a", "A", "calm", "calm\n", "come 1\n", "node lies 1 1\n", "owns", "\x00", "é", "\t", "00"}
	for range 1 + r.Intn(2) {
		i := r.Intn(len(b) + 1)
		j := min(len(b), i+r.Intn(3))
		if r.Intn(4) == 0 { // a whole line goes
			j = min(len(b), i+1+strings.IndexByte(string(b[i:]), '\n'))
		}
		b = append(append(append([]byte{}, b[:i]...), parts[r.Intn(len(parts))]...), b[j:]...)
		if r.Intn(4) == 0 {
			b = b[:r.Intn(len(b)+1)]
		}
	}
	return string(b)
}

// 23.3: what is shown is read as it was, and in one way alone: whatever else is changed is read as something else, or is told with its line.
func TestOneWay(t *testing.T) {
	r := rand.New(rand.NewSource(23))
	forms := forms()
	right := 0
	for range 3000 {
		s, l := chanceSetup(r), chanceDeeds(r)
		text, e := Show(s, l)
		if e != api.OK {
			t.Fatalf("Show(%+v, %+v): %v", s, l, e)
		}
		needRead(t, text, s, l)
		for range 4 {
			other := spoilt(r, text)
			if want := wrongLine(forms, other); want != 0 {
				if a, b, at, e := Read(other); at != want || e != api.ErrForm || !equal(a, api.Setup{}) || b != nil {
					t.Fatalf("Read(%q): %d, %v, want %d", other, at, e, want)
				}
				continue
			}
			right++
			a, b, at, e := Read(other)
			if at != 0 || e != api.OK {
				t.Fatalf("Read(%q): %d, %v", other, at, e)
			}
			needShow(t, a, b, other)
		}
	}
	if right < 100 {
		t.Errorf("just %d of the changed texts were right", right)
	}
}

// R1: any bytes are read, and run.
func TestAnyBytes(t *testing.T) {
	r := rand.New(rand.NewSource(1))
	for range 2000 {
		b := make([]byte, r.Intn(60))
		for i := range b {
			b[i] = "file -\ncut 01 node owns\x00\xff"[r.Intn(25)]
		}
		Read(string(b))
		Run(string(b))
	}
}

// told is what a script tells by the chapter's words: the swarm's own answers.
func told(s api.Setup, l []api.Deed) string {
	x := swarm.New(s)
	out := ""
	for i, d := range l {
		if d.Kind == api.DeedCalm {
			n, done := x.Calm()
			out += fmt.Sprintf("%d calm %d %s\n", i+1, n, map[bool]string{true: "done", false: "not"}[done])
		} else if e := x.Do(d); e == api.OK {
			out += fmt.Sprintf("%d ok\n", i+1)
		} else {
			out += fmt.Sprintf("%d error %d\n", i+1, int(e))
		}
	}
	for i := 1; i <= x.Size(); i++ {
		n := x.Node(i)
		if n == nil {
			out += fmt.Sprintf("node %d lies\n", i)
			continue
		}
		out += fmt.Sprintf("node %d %d %s", i, bits.Count(n.Have()), map[bool]string{true: "done", false: "not"}[n.Done()])
		if f, e := n.File(); e == api.OK {
			out += " " + sha.Hex(f)
		}
		out += "\n"
	}
	return out
}

// lies are datagrams that a liar may send: true ones, false ones, and such as say nothing.
func lies(x *swarm.Swarm) []string {
	m, whole := x.Manifest(), x.Node(1).Whole()
	l := []string{"", "text", wire.Text(api.Msg{Kind: api.MsgHello, Name: manifest.Name(m)}), wire.Text(api.Msg{Kind: api.MsgOffer, M: m})}
	for i := range whole {
		h := api.Head{Mode: api.ModeOne, Seed: i}
		path, _ := merkle.Path(whole, i)
		data, _ := inner.Encode(m, h, whole)
		l = append(l, wire.Text(api.Msg{Kind: api.MsgCheck, Head: h, Data: data}), wire.Text(api.Msg{Kind: api.MsgCheck, Head: h, Data: strings.Repeat("?", m.Size)}),
			wire.Text(api.Msg{Kind: api.MsgProof, Num: i, Digest: merkle.Leaf(whole[i]), Path: path}), wire.Text(api.Msg{Kind: api.MsgProof, Num: i, Digest: merkle.Leaf("?"), Path: path}))
	}
	return l
}

// 23.2, 23.3: what a script tells is what its swarm does.
func TestRunIsTheSwarm(t *testing.T) {
	r := rand.New(rand.NewSource(22))
	count := map[string]int{}
	for range 60 {
		s := setup()
		s.Config = api.Config{Room: 1 + r.Intn(15), Timeout: 1 + r.Intn(60), Slots: r.Intn(4), Quota: 1 + r.Intn(26), Out: 20 + r.Intn(280)}
		s.Roles, s.Places = []int{0}, []api.Place{{}}
		for range 1 + r.Intn(4) {
			s.Roles, s.Places = append(s.Roles, 1+r.Intn(3)), append(s.Places, api.Place{X: r.Intn(9)})
		}
		said := lies(swarm.New(s))
		node := func() int { return r.Intn(len(s.Roles) + 2) }
		var l []api.Deed
		for range r.Intn(120) {
			some := []api.Deed{
				{Kind: 1, I: r.Intn(9) - 1}, {Kind: 1}, {Kind: 1}, {Kind: 2, I: r.Intn(9) - 1}, {Kind: 3, I: r.Intn(9) - 1}, {Kind: 4, Node: node(), I: r.Intn(9) - 1},
				{Kind: 4, Node: node()}, {Kind: 5, Node: node(), To: node()}, {Kind: 6, Node: node(), To: node(), Text: said[r.Intn(len(said))]},
			}
			l = append(l, some[r.Intn(len(some))])
		}
		if r.Intn(2) == 0 {
			l = append(l, api.Deed{Kind: api.DeedCalm})
		}
		text, e := Show(s, l)
		if e != api.OK {
			t.Fatalf("Show: %v", e)
		}
		out, line, e := Run(text)
		if want := told(s, l); out != want || line != 0 || e != api.OK {
			t.Fatalf("Run(%q): %q, %d, %v, want %q", text, out, line, e, want)
		}
		for _, word := range []string{" ok\n", " error 1\n", " error 4\n", " calm ", " done ", " not\n", " lies\n"} {
			count[word] += strings.Count(out, word)
		}
	}
	for word, n := range count {
		if n == 0 {
			t.Errorf("no script told%q", word)
		}
	}
}
