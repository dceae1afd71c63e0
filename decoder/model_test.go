package decoder

import (
	"fmt"
	"maps"
	"math/rand"
	"slices"
	"testing"

	"mosaic/api"
	"mosaic/block"
	"mosaic/inner"
	"mosaic/manifest"
	"mosaic/merkle"
	"mosaic/outer"
)

// law is an equation or a rule (of the peer 0), as the document speaks of it.
type law struct {
	peer       int
	head       api.Head
	idx        []int
	data       string
	gone, held bool
}

// hunch is a guess.
type hunch struct {
	data  string
	by    *law
	roots map[*law]int
}

// model settles by the document's words, one after the other, and keeps all laws that ever were.
type model struct {
	m      api.Manifest
	all    int
	room   int
	laws   []*law
	guess  map[int]hunch
	right  map[int]string
	digest map[int]string
	blames map[int]int
	broken bool
	seen   map[string]int // how often what happened
}

func newModel(m api.Manifest, room int) *model {
	d := &model{m: m, all: manifest.All(m), room: room, guess: map[int]hunch{}, right: map[int]string{}, digest: map[int]string{}, blames: map[int]int{}, seen: map[string]int{}}
	p, _ := manifest.Plan(m)
	rules, _ := outer.Rules(p)
	for _, row := range rules {
		d.laws = append(d.laws, &law{idx: row, data: block.Zero(m.Size)})
	}
	d.settle()
	return d
}

func (d *model) settle() {
	for d.lookAtOne() || d.spendOne() || d.guessOne(true) || d.guessOne(false) {
	}
}

func (d *model) lookAtOne() bool {
	for i := range d.all {
		g, isGuess := d.guess[i]
		digest, isLearned := d.digest[i]
		if !isGuess || !isLearned {
			continue
		}
		if merkle.Leaf(g.data) == digest {
			d.right[i] = g.data
			delete(d.guess, i)
			d.seen["verified"]++
			return true
		}
		others := 0
		for _, j := range g.by.idx {
			if _, is := d.right[j]; j != i && !is {
				others++
			}
		}
		if others == 0 {
			g.by.gone = true
			d.blame(g.by)
			d.seen["failed"]++
		} else {
			g.by.held = true
			d.seen["held"]++
		}
		d.letGo(g.by)
		return true
	}
	return false
}

func (d *model) spendOne() bool {
	for _, x := range d.laws {
		sum := x.data
		count := 0
		for _, j := range x.idx {
			if s, is := d.right[j]; is {
				sum, _ = block.Xor(sum, s)
				count++
			}
		}
		if x.gone || count < len(x.idx) {
			continue
		}
		x.gone = true
		d.seen["spent"]++
		if sum != block.Zero(d.m.Size) {
			d.seen["spent and false"]++
			d.blame(x)
		}
		return true
	}
	return false
}

// guessOne guesses by the first law that says something: by verified blocks alone (sure), or by guesses, too.
func (d *model) guessOne(sure bool) bool {
	for _, x := range d.laws {
		if x.gone || x.held && !sure {
			continue
		}
		var free []int
		sum := x.data
		roots := map[*law]int{x: 1}
		for _, j := range x.idx {
			if s, is := d.right[j]; is {
				sum, _ = block.Xor(sum, s)
			} else if g, is := d.guess[j]; is && !sure {
				sum, _ = block.Xor(sum, g.data)
				maps.Copy(roots, g.roots)
			} else {
				free = append(free, j)
			}
		}
		if len(free) != 1 {
			continue
		}
		if _, is := d.guess[free[0]]; is {
			continue
		}
		if len(roots) > 8 {
			d.seen["too many roots"]++
			continue
		}
		if x.held {
			d.seen["guessed by one that is held"]++
		}
		d.guess[free[0]] = hunch{sum, x, roots}
		d.seen[fmt.Sprint("guessed, sure ", sure)]++
		return true
	}
	return false
}

func (d *model) blame(x *law) {
	if x.peer == 0 {
		d.broken = true
		return
	}
	d.blames[x.peer]++
	if d.blames[x.peer] < 2 {
		return
	}
	d.seen["banned"]++
	for _, y := range d.laws {
		if y.peer == x.peer && !y.gone {
			y.gone = true
			d.letGo(y)
		}
	}
}

func (d *model) letGo(x *law) {
	for i := range d.all {
		if g, is := d.guess[i]; is && g.roots[x] > 0 {
			delete(d.guess, i)
			d.seen["let go"]++
		}
	}
}

// keptOf are the equations of a peer (0: of all) that are kept.
func (d *model) keptOf(peer int) []*law {
	var l []*law
	for _, x := range d.laws {
		if x.peer > 0 && !x.gone && (peer == 0 || peer == x.peer) {
			l = append(l, x)
		}
	}
	return l
}

func (d *model) add(peer int, h api.Head, data string) api.Errno {
	if d.blames[peer] >= 2 {
		return api.ErrBan
	}
	idx, e := inner.Index(d.m, h)
	if e != api.OK {
		return e
	}
	for _, x := range d.keptOf(peer) {
		if x.head == h {
			return api.ErrThere
		}
	}
	if len(d.keptOf(0)) == d.room {
		return api.ErrFull
	}
	d.laws = append(d.laws, &law{peer: peer, head: h, idx: idx, data: data})
	d.settle()
	return api.OK
}

func (d *model) evict(peer int) api.Errno {
	l := d.keptOf(peer)
	if len(l) == 0 {
		return api.ErrNone
	}
	l[0].gone = true
	d.letGo(l[0])
	d.settle()
	return api.OK
}

func (d *model) learn(i int, digest string) api.Errno {
	if _, is := d.digest[i]; is {
		return api.ErrThere
	}
	d.digest[i] = digest
	d.settle()
	return api.OK
}

func (d *model) put(i int, data string) api.Errno {
	if _, is := d.right[i]; is {
		return api.ErrThere
	}
	digest, is := d.digest[i]
	if !is {
		return api.ErrNone
	}
	if digest != merkle.Leaf(data) {
		return api.ErrBad
	}
	d.right[i] = data
	d.settle()
	return api.OK
}

// differs is what a decoder tells otherwise than the model; empty, if nothing.
func (d *model) differs(x *Decoder) string {
	whole := make([]string, d.all)
	for i, s := range d.right {
		whole[i] = s
	}
	guesses := slices.Sorted(maps.Keys(d.guess))
	asks := slices.DeleteFunc(slices.Clone(guesses), func(i int) bool { return d.digest[i] != "" })
	switch {
	case !slices.Equal(x.Whole(), whole):
		return fmt.Sprintf("Whole: %q, want %q", x.Whole(), whole)
	case !slices.Equal(x.Guesses(), guesses) || !slices.Equal(x.Asks(), asks):
		return fmt.Sprint("Guesses, Asks: ", x.Guesses(), x.Asks(), ", want ", guesses, asks)
	case x.Kept() != len(d.keptOf(0)) || x.Broken() != d.broken:
		return fmt.Sprint("Kept, Broken: ", x.Kept(), x.Broken(), ", want ", len(d.keptOf(0)), d.broken)
	}
	for i, g := range d.guess {
		if x.pieces[i].data != g.data || len(x.pieces[i].roots) != len(g.roots) {
			return fmt.Sprintf("the guess of %d: %q of %d roots, want %q of %d", i, x.pieces[i].data, len(x.pieces[i].roots), g.data, len(g.roots))
		}
	}
	for peer := range api.MaxPeer {
		peer++
		if x.Blames(peer) != d.blames[peer] || x.Banned(peer) != (d.blames[peer] >= 2) || x.KeptOf(peer) != len(d.keptOf(peer)) {
			return fmt.Sprintf("peer %d: %d blames, %d kept, want %d, %d", peer, x.Blames(peer), x.KeptOf(peer), d.blames[peer], len(d.keptOf(peer)))
		}
	}
	return ""
}

// published is a file's manifest and whole; if not fair, the root is that of blocks of which a rule does not hold.
func published(r *rand.Rand, most int, fair bool) (api.Manifest, []string) {
	file := make([]byte, 1+r.Intn(most))
	r.Read(file)
	code := api.Code{Eps: api.Ratio{N: 1, D: 1 + r.Intn(3)}, Q: 1 + r.Intn(4), F: 1 + r.Intn(5)}
	code.F = max(code.F, 2)
	m, w, e := manifest.Publish(string(file), manifest.Want{Size: 1 + r.Intn(3), Seed: r.Intn(1000), Code: code})
	if e != api.OK {
		return published(r, most, fair)
	}
	if !fair {
		w[r.Intn(len(w))] = someData(m.Size, r)
		m.Root, _ = merkle.Root(w)
	}
	return m, w
}

func someData(size int, r *rand.Rand) string {
	b := make([]byte, size)
	r.Read(b)
	return string(b)
}

// someHead is a head of any mode.
func someHead(m api.Manifest, r *rand.Rand) api.Head {
	all := manifest.All(m)
	switch r.Intn(4) {
	case 0:
		return api.Head{Mode: api.ModeOne, Seed: r.Intn(all)}
	case 1:
		return api.Head{Mode: api.ModeAll, Seed: r.Intn(1000)}
	}
	return api.Head{Mode: api.ModeSome, Seed: r.Intn(1000), Have: setOf(all, r.Perm(all)[:1+r.Intn(min(all, 3))])}
}

// both does something to a decoder and to the model, and tells what each answers.
func both(x *Decoder, d *model, w []string, lies int, r *rand.Rand) (got, want api.Errno) {
	i := r.Intn(len(w))
	switch k := r.Intn(20); {
	case k < 2:
		path, _ := merkle.Path(w, i)
		return x.Learn(i, merkle.Leaf(w[i]), path), d.learn(i, merkle.Leaf(w[i]))
	case k < 3:
		data := w[i]
		if r.Intn(3) == 0 {
			data = someData(d.m.Size, r)
		}
		return x.Put(i, data), d.put(i, data)
	case k < 4:
		peer := 1 + r.Intn(6)
		return x.Evict(peer), d.evict(peer)
	}
	peer, h := 1+r.Intn(6), someHead(d.m, r)
	data, _ := inner.Encode(d.m, h, w)
	if peer > 3 && r.Intn(100) < lies {
		data = someData(d.m.Size, r)
	}
	return x.Add(peer, h, data), d.add(peer, h, data)
}

// isWithin tells whether all that a has is in b, as it is.
func isWithin(a, b []string) bool {
	for i := range a {
		if a[i] != "" && a[i] != b[i] {
			return false
		}
	}
	return true
}

// 15.1 to 15.4: whatever is done to it, a decoder is as the document's words make it; what is verified stays; who sent true ones alone is not blamed, if the rules hold.
func TestAgainstModel(t *testing.T) {
	r := rand.New(rand.NewSource(1))
	seen := map[string]int{}
	for round := range 600 {
		fair := round%4 > 0
		m, w := published(r, 30, fair)
		room := 1 + r.Intn(40)
		x, d := New(m, room), newModel(m, room)
		lies := r.Intn(60)
		for step := range 120 {
			before := x.Whole()
			got, want := both(x, d, w, lies, r)
			if got != want {
				t.Fatalf("round %d, step %d: %v, want %v", round, step, got, want)
			}
			seen[fmt.Sprint("error ", got)]++
			if s := d.differs(x); s != "" {
				t.Fatalf("round %d, step %d: %s", round, step, s)
			}
			if !isWithin(before, x.Whole()) || !isWithin(x.Whole(), w) {
				t.Fatalf("round %d, step %d: verified is %q, and was %q", round, step, x.Whole(), before)
			}
			if x.Blames(1)+x.Blames(2)+x.Blames(3) > 0 || fair && x.Broken() {
				t.Fatalf("round %d, step %d: who is fair is blamed", round, step)
			}
		}
		if d.broken {
			seen["broken"]++
		}
		for k, n := range d.seen {
			seen[k] += n
		}
	}
	for _, k := range []string{"verified", "failed", "held", "spent", "spent and false", "too many roots", "guessed by one that is held", "guessed, sure true", "guessed, sure false", "banned", "let go", "broken", "error 0", "error 4", "error 5", "error 6", "error 9", "error 10"} {
		if seen[k] < 20 {
			t.Errorf("%s: %d times alone: take others", k, seen[k])
		}
	}
}
