package vault

import (
	"fmt"
	"math"
	"math/rand"
	"slices"
	"strings"
	"testing"

	"mosaic/api"
	"mosaic/decoder"
	"mosaic/inner"
	"mosaic/manifest"
	"mosaic/merkle"
)

// published is a file of four message blocks and three auxiliary ones, and its whole.
func published(t *testing.T) (api.Manifest, []string) {
	m, w, e := manifest.Publish("hello, world", manifest.Want{Size: 3, Seed: 9, Code: api.Code{Eps: api.Ratio{N: 1, D: 2}, Q: 2, F: 4}})
	if e != api.OK || len(w) != 7 {
		t.Fatalf("%d blocks, %v", len(w), e)
	}
	return m, w
}

// entry is what is true of a block, with its bytes or without.
func entry(w []string, i int, with bool) Entry {
	path, _ := merkle.Path(w, i)
	x := Entry{Num: i, Digest: merkle.Leaf(w[i]), Path: path}
	if with {
		x.Data = w[i]
	}
	return x
}

// written is the vault of a manifest and entries, by the document's words.
func written(m api.Manifest, l ...Entry) string {
	s := "vlt1" + manifest.Text(m) + string([]byte{byte(len(l))})
	for _, x := range l {
		s += string([]byte{byte(x.Num)}) + x.Digest + string([]byte{byte(len(x.Path))}) + strings.Join(x.Path, "")
		if x.Data == "" {
			s += "\x00"
		} else {
			s += "\x01" + x.Data
		}
	}
	return s
}

func areSame(a, b []Entry) bool {
	return slices.EqualFunc(a, b, func(x, y Entry) bool {
		return x.Num == y.Num && x.Digest == y.Digest && x.Data == y.Data && slices.Equal(x.Path, y.Path)
	})
}

// having is a decoder that has learned the digests of some blocks, and has others of these.
func having(t *testing.T, m api.Manifest, w []string, learn, put []int) *decoder.Decoder {
	t.Helper()
	d := decoder.New(m, 20)
	for _, i := range learn {
		x := entry(w, i, true)
		if e := d.Learn(i, x.Digest, x.Path); e != api.OK {
			t.Fatalf("Learn %d: %v", i, e)
		}
	}
	for _, i := range put {
		if e := d.Put(i, w[i]); e != api.OK && e != api.ErrThere {
			t.Fatalf("Put %d: %v", i, e)
		}
	}
	return d
}

// 28.1: the example: of a decoder that learned nothing.
func TestExample(t *testing.T) {
	m, _ := published(t)
	s, e := Save(decoder.New(m, 1))
	if e != api.OK || len(s) != 57 || s != "vlt1"+manifest.Text(m)+"\x00" {
		t.Errorf("Save: %x, %v", s, e)
	}
	k, l, e := Parse(s)
	if e != api.OK || k != m || len(l) != 0 {
		t.Errorf("Parse: %v, %v, %v", k, l, e)
	}
}

// 28.1: the vault, byte by byte; equations and guesses are not saved.
func TestSave(t *testing.T) {
	m, w := published(t)
	d := having(t, m, w, []int{5, 0, 2}, []int{2})
	d.Add(1, api.Head{Mode: api.ModeOne, Seed: 1}, w[1])
	if len(d.Guesses()) == 0 || d.Kept() != 1 {
		t.Fatalf("%v is guessed", d.Guesses())
	}
	want := written(m, entry(w, 0, false), entry(w, 2, true), entry(w, 5, false))
	if s, e := Save(d); s != want || e != api.OK {
		t.Errorf("Save: %x, %v, want %x", s, e, want)
	}
	if s, e := Save(nil); s != "" || e != api.ErrArg {
		t.Errorf("Save of nil: %x, %v", s, e)
	}
}

// 28.1: the greatest vault is not too long: all digests and blocks of 160.
func TestGreatest(t *testing.T) {
	file := strings.Repeat("abcdefg", 96*42/7)
	m, w, e := manifest.Publish(file, manifest.Want{Size: 42, Seed: 1, Code: api.Code{Eps: api.Ratio{N: 1, D: 1}, Q: 8, F: 64}})
	if e != api.OK || len(w) != 160 {
		t.Fatalf("%d blocks, %v", len(w), e)
	}
	var all []int
	for i := range w {
		all = append(all, i)
	}
	s, e := Save(having(t, m, w, all, all))
	if e != api.OK || len(s) > api.MaxData {
		t.Fatalf("Save: %d bytes, %v", len(s), e)
	}
	d, e := Load(s, 400)
	if e != api.OK || !slices.Equal(d.Whole(), w) || !Same(s, s) {
		t.Fatalf("Load: %v", e)
	}
	if got, e := d.File(); got != file || e != api.OK {
		t.Errorf("File: %v", e)
	}
}

// 28.1: what has the form is read, whether it is true or not.
func TestParse(t *testing.T) {
	m, w := published(t)
	odd := Entry{Num: 6, Digest: strings.Repeat("d", 32), Path: slices.Repeat([]string{strings.Repeat("p", 32)}, 255), Data: "xyz"}
	bare := Entry{Num: 0, Digest: strings.Repeat("\x00", 32)}
	for k, l := range [][]Entry{nil, {entry(w, 0, true)}, {entry(w, 6, false)}, {bare, odd}, {bare, entry(w, 1, true), entry(w, 2, false), entry(w, 3, true), entry(w, 4, true), entry(w, 5, false), odd}} {
		got, list, e := Parse(written(m, l...))
		if e != api.OK || got != m || !areSame(list, l) {
			t.Errorf("Parse %d: %v, %v, %v, want %v", k, got, list, e, l)
		}
	}
}

// wrongForms have not the form of a vault.
func wrongForms(m api.Manifest, w []string) []string {
	zero, two, six := entry(w, 0, true), entry(w, 2, false), entry(w, 6, true)
	s := written(m, zero, two, six)
	l := []string{s + "\x00", s + s, "vlt2" + s[4:], "mos1" + s[4:], s[:4] + "\x00" + s[5:], "\x00" + s, strings.Repeat("\x00", len(s)), strings.Repeat("\xff", len(s))}
	for i := range len(s) {
		l = append(l, s[:i])
	}
	for _, c := range []byte{0, 1, 2, 4, 255} {
		l = append(l, s[:56]+string([]byte{c})+s[57:])
	}
	for _, c := range []byte{2, 3, 128, 255} { // what stands ahead of a block is 0 or 1
		l = append(l, s[:len(s)-4]+string([]byte{c})+s[len(s)-3:])
	}
	// numbers that do not rise, or are none of a block
	l = append(l, written(m, two, zero), written(m, zero, zero), written(m, two, six, two), written(m, six, six))
	for _, num := range []int{7, 8, 160, 255} {
		x := six
		x.Num = num
		l = append(l, written(m, x), written(m, zero, x))
	}
	// blocks of another size, digests of another length
	for _, data := range []string{"ab", "abcd", strings.Repeat("a", 64)} {
		x := six
		x.Data = data
		l = append(l, written(m, x))
	}
	x := six
	x.Digest = x.Digest[1:]
	y := six
	y.Path = []string{y.Path[0][1:]}
	return append(l, written(m, x), written(m, y))
}

// wrongManifests are vaults whose manifest may not be.
func wrongManifests(s string) []string {
	var l []string
	for _, x := range []struct {
		at int
		to string
	}{{4, "mos2"}, {8, "\x00\x00"}, {8, "\x10\x01"}, {10, "\x00"}, {10, "\x41"}, {18, "\x00\x00"}, {20, "\x00\x00"}, {18, "\x00\x02\x00\x04"}, {22, "\x00"}, {22, "\x09"}, {23, "\x01"}, {23, "\x41"}} {
		l = append(l, s[:x.at]+x.to+s[x.at+len(x.to):])
	}
	return l
}

// 28.1, 28.2: what has not the form says nothing, to Parse, Load, Merge and Same.
func TestForm(t *testing.T) {
	m, w := published(t)
	fine := written(m, entry(w, 0, true))
	for k, s := range slices.Concat(wrongForms(m, w), wrongManifests(written(m)), wrongManifests(fine)) {
		if n, l, e := Parse(s); e != api.ErrForm || n != (api.Manifest{}) || l != nil {
			t.Errorf("Parse of the wrong one %d, %x: %v, %v, %v", k, s, n, l, e)
		}
		for _, room := range []int{0, 5} {
			if d, e := Load(s, room); e != api.ErrForm || d != nil {
				t.Errorf("Load of the wrong one %d: %v", k, e)
			}
			if x, e := Merge(s, fine, room); e != api.ErrForm || x != "" {
				t.Errorf("Merge of the wrong one %d: %v", k, e)
			}
		}
		if x, e := Merge(fine, s, 5); e != api.ErrForm || x != "" {
			t.Errorf("Merge with the wrong one %d: %v", k, e)
		}
		if Same(s, s) || Same(s, fine) || Same(fine, s) {
			t.Errorf("the wrong one %d is the same", k)
		}
	}
}

// 28.2: what is loaded has learned the digests, has the blocks, and keeps nothing.
func TestLoad(t *testing.T) {
	m, w := published(t)
	a := having(t, m, w, []int{0, 2, 5}, []int{2})
	s, _ := Save(a)
	d, e := Load(s, 20)
	if e != api.OK || d.Manifest() != m || d.Kept() != 0 || !slices.Equal(d.Whole(), a.Whole()) || d.Block(2) != w[2] || d.Broken() {
		t.Fatalf("Load: %v", e)
	}
	for i := range w {
		digest, path, is := d.Proof(i)
		if want := i == 0 || i == 2 || i == 5; is != want || is && (digest != merkle.Leaf(w[i]) || !slices.Equal(path, entry(w, i, false).Path)) {
			t.Errorf("Proof %d: %x, %v", i, digest, is)
		}
	}
	// it goes on from there
	for i := range w {
		x := entry(w, i, false)
		d.Learn(i, x.Digest, x.Path)
		d.Add(3, api.Head{Mode: api.ModeOne, Seed: i}, w[i])
	}
	if got, e := d.File(); got != "hello, world" || e != api.OK || d.Blames(3) != 0 {
		t.Errorf("File: %q, %v", got, e)
	}
}

// 28.2: rooms that may not be, and in which order errors are told.
func TestLoadRoom(t *testing.T) {
	m, w := published(t)
	s := written(m, entry(w, 0, true))
	lie := entry(w, 0, true)
	lie.Data = "xxx"
	bad := written(m, lie)
	for _, room := range []int{0, -1, 401, math.MaxInt, math.MinInt} {
		for _, x := range []string{s, bad} {
			if d, e := Load(x, room); d != nil || e != api.ErrArg {
				t.Errorf("Load with room %d: %v", room, e)
			}
			if x, e := Merge(x, s, room); x != "" || e != api.ErrArg {
				t.Errorf("Merge with room %d: %v", room, e)
			}
		}
		if d, e := Load(s[1:], room); d != nil || e != api.ErrForm {
			t.Errorf("Load of a wrong one with room %d: %v", room, e)
		}
	}
	for _, room := range []int{1, 400} {
		d, e := Load(s, room)
		if e != api.OK || d.Block(0) != w[0] {
			t.Fatalf("Load with room %d: %v", room, e)
		}
		full := api.OK
		for k := range 401 {
			if full = d.Add(1+k%15, api.Head{Mode: api.ModeSome, Seed: k, Have: "\x42"}, "abc"); full != api.OK {
				break
			}
		}
		if full != api.ErrFull || d.Kept() != room {
			t.Errorf("room %d: %d are kept, %v", room, d.Kept(), full)
		}
	}
}

// lies have the form, but a digest, a path or a block is not true.
func lies(m api.Manifest, w []string) []string {
	change := func(s string) string { return s[:len(s)-1] + string([]byte{s[len(s)-1] ^ 1}) }
	var l []string
	for i := range w {
		for part := range 8 {
			x := entry(w, i, part%2 == 0)
			switch part {
			case 0, 1:
				x.Digest = change(x.Digest)
			case 2, 3:
				x.Path[len(x.Path)-1] = change(x.Path[len(x.Path)-1])
			case 4:
				x.Data = change(x.Data)
			case 5:
				x.Path = x.Path[1:]
			case 6:
				x.Path = append(x.Path, x.Digest)
			case 7:
				x.Num = (i + 1) % len(w)
			}
			l = append(l, written(m, x))
			if x.Num > 0 {
				l = append(l, written(m, entry(w, 0, true), x))
			}
		}
	}
	other := m
	other.Root = change(m.Root)
	x := entry(w, 1, true)
	x.Path = nil
	y := Entry{Num: 0, Digest: m.Root}
	return append(l, written(other, entry(w, 0, false)), written(m, x), written(m, y))
}

// 28.2: what is not true is not believed.
func TestLies(t *testing.T) {
	m, w := published(t)
	fine := written(m, entry(w, 3, true))
	for k, s := range lies(m, w) {
		if _, _, e := Parse(s); e != api.OK {
			t.Errorf("Parse of the lie %d: %v", k, e)
		}
		if d, e := Load(s, 5); d != nil || e != api.ErrBad {
			t.Errorf("Load of the lie %d: %v", k, e)
		}
		if x, e := Merge(s, fine, 5); x != "" || e != api.ErrBad {
			t.Errorf("Merge of the lie %d: %v", k, e)
		}
		if x, e := Merge(fine, s, 5); x != "" || e != api.ErrBad {
			t.Errorf("Merge with the lie %d: %v", k, e)
		}
		if Same(s, s) || Same(s, fine) || Same(fine, s) {
			t.Errorf("the lie %d is the same", k)
		}
	}
}

// 28.2: a block that the rules tell, too, must be the same; what they tell, and the vault does not, is verified.
func TestByRules(t *testing.T) {
	m, w, _ := manifest.Publish("a", manifest.Want{Size: 1, Code: api.Code{Eps: api.Ratio{N: 1, D: 2}, Q: 1, F: 4}})
	for _, x := range []struct {
		s    string
		want api.Errno
		same bool
	}{{written(m, entry(w, 0, true), entry(w, 1, true)), api.OK, true}, {written(m, entry(w, 0, true), entry(w, 1, false)), api.OK, false}, {written(m, entry(w, 0, false), entry(w, 1, true)), api.OK, false}, {written(m, entry(w, 0, true), Entry{1, merkle.Leaf(w[1]), entry(w, 1, true).Path, "b"}), api.ErrBad, false}} {
		d, e := Load(x.s, 1)
		if e != x.want || Same(x.s, x.s) != x.same {
			t.Errorf("Load of %x: %v, the same: %v", x.s, e, Same(x.s, x.s))
		}
		if e == api.OK && !slices.Equal(d.Whole(), w) {
			t.Errorf("loaded is %q", d.Whole())
		}
	}
}

// 28.2: of a whole of which a rule does not hold what is true by the digests is loaded, and the decoder is broken.
func TestBroken(t *testing.T) {
	m, w := published(t)
	w[5] = "xxx"
	m.Root, _ = merkle.Root(w)
	var all []Entry
	for i := range w {
		all = append(all, entry(w, i, true))
	}
	s := written(m, all...)
	if d, e := Load(s, 5); e != api.OK || !slices.Equal(d.Whole(), w) || !d.Broken() || !Same(s, s) {
		t.Errorf("Load: %v", e)
	}
}

// 28.3: two vaults merged: in either order, of all digests and blocks.
func TestMerge(t *testing.T) {
	m, w := published(t)
	a, _ := Save(having(t, m, w, []int{0, 2, 5}, []int{2}))
	b, _ := Save(having(t, m, w, []int{1, 2, 5}, []int{1, 5}))
	none, _ := Save(decoder.New(m, 1))
	both, _ := Save(having(t, m, w, []int{0, 1, 2, 5}, []int{1, 2, 5}))
	for k, x := range []struct{ a, b, want string }{{a, b, both}, {b, a, both}, {a, a, a}, {a, none, a}, {none, a, a}, {none, none, none}, {both, a, both}, {a, both, both}} {
		if s, e := Merge(x.a, x.b, 5); e != api.OK || s != x.want || !Same(s, x.want) {
			t.Errorf("Merge %d: %x, %v, want %x", k, s, e, x.want)
		}
	}
}

// 28.3: what neither has, and both together tell by a rule, is there.
func TestMergeByRules(t *testing.T) {
	m, w, _ := manifest.Publish("ab", manifest.Want{Size: 1, Code: api.Code{Eps: api.Ratio{N: 1, D: 2}, Q: 1, F: 4}})
	a, _ := Save(having(t, m, w, []int{0, 2}, []int{0}))
	b, _ := Save(having(t, m, w, []int{1}, []int{1}))
	s, e := Merge(a, b, 1)
	d, f := Load(s, 1)
	if e != api.OK || f != api.OK || !slices.Equal(d.Whole(), w) || !Same(s, s) {
		t.Errorf("Merge: %x, %v, %v", s, e, f)
	}
}

// 28.3: manifests that are not the same; errors of the first one come first.
func TestMergeErrors(t *testing.T) {
	m, w := published(t)
	a := written(m, entry(w, 0, true))
	n, v, _ := manifest.Publish("hello, World", manifest.Want{Size: 3, Seed: 9, Code: m.Code})
	other := written(n, entry(v, 0, true))
	seeded := m
	seeded.Seed = 10
	lie := entry(w, 0, true)
	lie.Data = "xxx"
	for k, x := range []struct {
		a, b string
		room int
		want api.Errno
	}{{a, other, 5, api.ErrBad}, {other, a, 5, api.ErrBad}, {a, written(seeded), 5, api.ErrBad}, {written(m), written(seeded), 5, api.ErrBad}, {"", written(m, lie), 5, api.ErrForm}, {written(m, lie), "", 5, api.ErrBad}, {a, "", 5, api.ErrForm}, {a, "", 0, api.ErrArg}, {"", a, 0, api.ErrForm}, {other, written(m, lie), 5, api.ErrBad}} {
		if s, e := Merge(x.a, x.b, x.room); s != "" || e != x.want {
			t.Errorf("Merge %d: %x, %v, want %v", k, s, e, x.want)
		}
	}
}

// 28.3: the same are those alone that are the same bytes, as they are saved.
func TestSame(t *testing.T) {
	m, w := published(t)
	l := []string{written(m), written(m, entry(w, 0, true)), written(m, entry(w, 0, false)), written(m, entry(w, 0, true), entry(w, 1, false))}
	for i, a := range l {
		for j, b := range l {
			if Same(a, b) != (i == j) {
				t.Errorf("Same of %d and %d: %v", i, j, Same(a, b))
			}
		}
	}
	if Same("", "") || Same(l[0], "") || Same("", l[0]) {
		t.Errorf("nothing is the same")
	}
}

// someDecoder has got something of fair peers, and of liars.
func someDecoder(m api.Manifest, w []string, lies int, r *rand.Rand) *decoder.Decoder {
	d := decoder.New(m, 100)
	for range r.Intn(60) {
		i := r.Intn(len(w))
		if r.Intn(3) == 0 {
			x := entry(w, i, false)
			d.Learn(i, x.Digest, x.Path)
			continue
		}
		h := api.Head{Mode: api.ModeOne, Seed: i}
		if r.Intn(2) == 0 {
			h = api.Head{Mode: api.ModeAll, Seed: r.Intn(100)}
		}
		data, _ := inner.Encode(m, h, w)
		if r.Intn(100) < lies {
			data = strings.Repeat("x", m.Size)
		}
		d.Add(1+r.Intn(9), h, data)
	}
	return d
}

// 28.4: what is saved and loaded has the same blocks and proofs; merged vaults have those of both.
func TestSavedAndLoaded(t *testing.T) {
	r := rand.New(rand.NewSource(1))
	for round := range 400 {
		m, w, e := manifest.Publish(fmt.Sprint("the file ", r.Int63(), r.Int63()), manifest.Want{Size: 1 + r.Intn(6), Seed: r.Intn(1000), Code: api.Code{Eps: api.Ratio{N: 1, D: 1 + r.Intn(4)}, Q: 1 + r.Intn(4), F: 4}})
		if e != api.OK {
			t.Fatal(e)
		}
		a, b := someDecoder(m, w, 0, r), someDecoder(m, w, 0, r)
		s, e := Save(a)
		d, f := Load(s, 100)
		if e != api.OK || f != api.OK || !slices.Equal(d.Whole(), a.Whole()) || !areSame(entriesOf(d), entriesOf(a)) || !Same(s, s) {
			t.Fatalf("round %d: %v, %v", round, e, f)
		}
		u, _ := Save(b)
		v, e := Merge(s, u, 100)
		x, f := Load(v, 100)
		if e != api.OK || f != api.OK {
			t.Fatalf("round %d: Merge: %v, %v", round, e, f)
		}
		for i := range w {
			_, _, inA := a.Proof(i)
			_, _, inB := b.Proof(i)
			if _, _, is := x.Proof(i); is != (inA || inB) {
				t.Fatalf("round %d: the proof of %d", round, i)
			}
			if got := x.Block(i); got != "" && got != w[i] || got == "" && a.Block(i)+b.Block(i) != "" {
				t.Fatalf("round %d: block %d: %q", round, i, got)
			}
		}
	}
}

// 28.4: of a decoder to which others lied nothing is lost, and nothing false is saved; the rules may tell more than it knew, where a lie had stopped them.
func TestSavedAmongLiars(t *testing.T) {
	r := rand.New(rand.NewSource(2))
	for round := range 400 {
		m, w := published(t)
		a := someDecoder(m, w, 30, r)
		s, e := Save(a)
		d, f := Load(s, 100)
		if e != api.OK || f != api.OK || d.Broken() || d.Kept() != 0 {
			t.Fatalf("round %d: %v, %v", round, e, f)
		}
		for i, got := range d.Whole() {
			if got != "" && got != w[i] || a.Block(i) != "" && got == "" {
				t.Fatalf("round %d: block %d: %q, and was %q", round, i, got, a.Block(i))
			}
			digest, path, is := a.Proof(i)
			if x, l, too := d.Proof(i); x != digest || !slices.Equal(l, path) || is != too {
				t.Fatalf("round %d: the proof of %d", round, i)
			}
		}
	}
}

// 28.4: whatever bytes are changed, what can be loaded of the file's manifest has the file's blocks alone.
func TestSpoilt(t *testing.T) {
	m, w := published(t)
	r := rand.New(rand.NewSource(3))
	s := written(m, entry(w, 0, true), entry(w, 2, false), entry(w, 3, true), entry(w, 6, false))
	loaded := 0
	try := func(x string) {
		d, e := Load(x, 5)
		if e != api.OK && e != api.ErrForm && e != api.ErrBad {
			t.Errorf("Load of %x: %v", x, e)
		}
		if e != api.OK || d.Manifest() != m {
			return
		}
		loaded++
		for i, got := range d.Whole() {
			if got != "" && got != w[i] {
				t.Errorf("Load of %x: block %d: %q", x, i, got)
			}
		}
	}
	for i := range 8 * len(s) {
		b := []byte(s)
		b[i/8] ^= 1 << (i % 8)
		try(string(b))
		if i/8 >= 56 && loaded > 0 {
			t.Errorf("with bit %d changed it is loaded", i)
		}
	}
	for range 5000 {
		b := []byte(s)
		for range r.Intn(3) {
			b[r.Intn(len(b))] = byte(r.Intn(256))
		}
		i, j := r.Intn(len(b)), r.Intn(len(b))
		try(string(b))
		try(string(b[:i]) + string(b[j:]))
		try(string(b[:57+i%300]) + string(b[57+j%300:]))
	}
	if loaded == 0 {
		t.Errorf("nothing could be loaded: take others")
	}
}
