package decoder

import (
	"math/rand"
	"slices"
	"testing"

	"mosaic/api"
	"mosaic/bits"
	"mosaic/inner"
	"mosaic/manifest"
	"mosaic/merkle"
	"mosaic/outer"
	"mosaic/peel"
	"mosaic/trial"
)

// learnAll has a decoder learn all digests, in any order.
func learnAll(t *testing.T, d *Decoder, w []string, r *rand.Rand) {
	t.Helper()
	for _, i := range r.Perm(len(w)) {
		path, _ := merkle.Path(w, i)
		if e := d.Learn(i, merkle.Leaf(w[i]), path); e != api.OK && e != api.ErrThere {
			t.Fatalf("Learn %d: %v", i, e)
		}
	}
}

// rulesOf are a manifest's rules.
func rulesOf(m api.Manifest) [][]int {
	p, _ := manifest.Plan(m)
	rules, _ := outer.Rules(p)
	return rules
}

// 15.4: whatever liars send, ahead of the digests or behind them: what peeling gets known of the rules and the true equations is verified; who was fair is not blamed.
func TestWhateverElseIsSent(t *testing.T) {
	r := rand.New(rand.NewSource(2))
	done, bans, part := 0, 0, 0
	for round := range 150 {
		m, w := published(r, 60, true)
		d := New(m, 400)
		rows := rulesOf(m)
		if round%3 == 0 {
			learnAll(t, d, w, r)
		}
		for range r.Intn(2 * len(w)) {
			peer, h := 1+r.Intn(8), someHead(m, r)
			data, _ := inner.Encode(m, h, w)
			if peer > 4 && r.Intn(2) == 0 {
				d.Add(peer, h, someData(m.Size, r))
				continue
			}
			e := d.Add(peer, h, data)
			if e == api.OK && peer <= 4 {
				idx, _ := inner.Index(m, h)
				rows = append(rows, idx)
			} else if peer <= 4 && e != api.ErrThere {
				t.Fatalf("round %d: Add of a true one: %v", round, e)
			}
		}
		learnAll(t, d, w, r)
		known, e := peel.Known(len(w), rows, nil)
		if e != api.OK {
			t.Fatal(e)
		}
		for _, i := range known {
			if d.Block(i) != w[i] {
				t.Fatalf("round %d: block %d: %q, want %q", round, i, d.Block(i), w[i])
			}
		}
		if !isWithin(d.Whole(), w) || d.Broken() || d.Blames(1)+d.Blames(2)+d.Blames(3)+d.Blames(4) > 0 {
			t.Fatalf("round %d: %q, want %q; broken: %v", round, d.Whole(), w, d.Broken())
		}
		if d.Done() {
			done++
		} else if len(known) > 0 {
			part++
		}
		for peer := 5; peer <= 8; peer++ {
			if d.Banned(peer) {
				bans++
			}
		}
	}
	if done < 20 || part < 20 || bans < 50 {
		t.Errorf("%d were done, %d in part, %d banned: take others", done, part, bans)
	}
}

// 15.4, 27.4: with all digests learned, and fair peers alone, just what a trial's curve says is verified.
func TestAsTheCurveSays(t *testing.T) {
	r := rand.New(rand.NewSource(3))
	for range 20 {
		m, w := published(r, 60, true)
		curve, e := trial.Curve(m, 5, 60)
		if e != api.OK {
			t.Fatal(e)
		}
		d := New(m, 400)
		learnAll(t, d, w, r)
		for k, want := range curve {
			if got := bits.Count(d.Have()); got != want {
				t.Fatalf("behind %d of %v: %d, want %d", k, m, got, want)
			}
			h := api.Head{Seed: 5 + k}
			data, _ := inner.Encode(m, h, w)
			if e := d.Add(1+k%15, h, data); e != api.OK {
				t.Fatalf("Add: %v", e)
			}
		}
	}
}

// 15.4: what is verified is what the digests say, or there were two texts of one sum among those that were summed.
func TestNoWitness(t *testing.T) {
	r := rand.New(rand.NewSource(4))
	for range 40 {
		m, w := published(r, 20, true)
		d := New(m, 100)
		texts := merkle.Texts(w)
		learnAll(t, d, w, r)
		for range 40 {
			h := someHead(m, r)
			data, _ := inner.Encode(m, h, w)
			if r.Intn(3) == 0 {
				data = someData(m.Size, r)
			}
			d.Add(1+r.Intn(15), h, data)
		}
		for i, s := range d.Whole() {
			if _, path, is := d.Proof(i); is && s != "" {
				texts = append(texts, merkle.Road(len(w), i, s, path)...)
			}
		}
		_, _, is := merkle.Witness(texts)
		if isWithin(d.Whole(), w) == is {
			t.Errorf("%q of %q, a witness: %v", d.Whole(), w, is)
		}
	}
}

// 15.4: a liar who alone says something of a block, and whose lies are found, is banned with the second one, wherever the digests come in.
func TestLiarsAreFound(t *testing.T) {
	r := rand.New(rand.NewSource(5))
	for range 40 {
		b := newBench(t)
		first, second := r.Intn(12), 0
		for second = r.Intn(12); second == first; second = r.Intn(12) {
		}
		b.lie(9, first)
		b.lie(9, second)
		for peer, i := range r.Perm(12) {
			b.add(1+peer%8, i)
		}
		learnAll(t, b.d, b.w, r)
		if !b.d.Banned(9) || b.d.Blames(9) != MaxBlames || !b.d.Done() || b.d.Kept() != 0 || b.d.Broken() {
			t.Errorf("lies about %d and %d: %d blames, %d kept", first, second, b.d.Blames(9), b.d.Kept())
		}
		if s, e := b.d.File(); s != "hello, world, here we go" || e != api.OK {
			t.Errorf("File: %q, %v", s, e)
		}
	}
}

// 15.2, 15.4: the greatest file, as many equations as there is room for, half of them lies: it ends in time.
func TestGreatest(t *testing.T) {
	r := rand.New(rand.NewSource(6))
	file := make([]byte, 96*42)
	r.Read(file)
	m, w, e := manifest.Publish(string(file), manifest.Want{Size: 42, Seed: 1, Code: api.Code{Eps: api.Ratio{N: 1, D: 2}, Q: 3, F: 64}})
	if e != api.OK || len(w) != 160 {
		t.Fatalf("%d blocks, %v", len(w), e)
	}
	d := New(m, 400)
	for k := range 1000 {
		h := api.Head{Seed: k}
		data, _ := inner.Encode(m, h, w)
		if peer := 1 + k%15; peer > 7 {
			data = someData(m.Size, r)
		}
		e := d.Add(1+k%15, h, data)
		if k < 400 && e != api.OK || k >= 400 && e != api.ErrFull {
			t.Fatalf("Add %d: %v", k, e)
		}
	}
	if d.Kept() != 400 {
		t.Errorf("%d are kept", d.Kept())
	}
	learnAll(t, d, w, r)
	if s, e := d.File(); e != api.OK || s != string(file) {
		t.Errorf("File: %v, %d blocks are verified", e, bits.Count(d.Have()))
	}
	if bad := slices.DeleteFunc([]int{1, 2, 3, 4, 5, 6, 7}, func(peer int) bool { return d.Blames(peer) == 0 }); len(bad) > 0 || !d.Banned(8) {
		t.Errorf("blamed are %v", bad)
	}
}
