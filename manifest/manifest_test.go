package manifest

import (
	"crypto/sha256"
	"encoding/binary"
	"math"
	"slices"
	"strings"
	"testing"

	"mosaic/api"
	"mosaic/block"
	"mosaic/merkle"
	"mosaic/outer"
)

// half is a code that may be.
func half() api.Code {
	return api.Code{Eps: api.Ratio{N: 1, D: 2}, Q: 2, F: 4}
}

// root is 32 bytes of all kinds.
func root() string {
	return "\x00\x01\xff\x80 0123456789abcdefghijklmnopq"
}

// rightOnes are manifests that may be, at the edges of each part.
func rightOnes() []api.Manifest {
	code := func(n, d, q, f int) api.Code { return api.Code{Eps: api.Ratio{N: n, D: d}, Q: q, F: f} }
	return []api.Manifest{
		{Long: 12, Size: 3, Seed: 9, Code: half(), Root: root()}, {Long: 5, Size: 2, Code: code(1, 2, 1, 4), Root: root()},
		{Long: 1, Size: 1, Code: half(), Root: root()}, {Long: 1, Size: 64, Code: half(), Root: root()}, {Long: 96, Size: 1, Code: half(), Root: root()},
		{Long: 4096, Size: 64, Code: half(), Root: root()}, {Long: 4096, Size: 43, Code: half(), Root: root()}, {Long: 255, Size: 3, Code: half(), Root: root()}, {Long: 256, Size: 3, Code: half(), Root: root()}, {Long: 257, Size: 32, Code: half(), Root: root()},
		{Long: 12, Size: 3, Seed: 1, Code: half(), Root: root()}, {Long: 12, Size: 3, Seed: 0x01020304050607, Code: half(), Root: root()}, {Long: 12, Size: 3, Seed: api.MaxSeed, Code: half(), Root: root()},
		{Long: 12, Size: 3, Code: code(1, 1, 1, 2), Root: root()}, {Long: 12, Size: 3, Code: code(1, 1, 8, 64), Root: root()}, {Long: 96, Size: 1, Code: code(1, 1, 8, 64), Root: root()}, {Long: 12, Size: 3, Code: code(1, 64, 1, 64), Root: root()},
		{Long: 12, Size: 3, Code: code(999, 1000, 3, 2), Root: root()}, {Long: 12, Size: 3, Code: code(257, 513, 3, 5), Root: root()}, {Long: 12, Size: 3, Code: code(16, 999, 3, 64), Root: root()},
		{Long: 12, Size: 3, Code: half(), Root: strings.Repeat("\x00", 32)}, {Long: 12, Size: 3, Code: half(), Root: strings.Repeat("\xff", 32)},
	}
}

// wrongOnes are manifests that may not be, in just one part each; and the one of nothing.
func wrongOnes() []api.Manifest {
	var l []api.Manifest
	add := func(change func(m *api.Manifest)) {
		m := rightOnes()[0]
		change(&m)
		l = append(l, m)
	}
	add(func(m *api.Manifest) { *m = api.Manifest{} })
	for _, x := range []int{0, -1, 289, 4097, 1<<16 + 12, 1<<32 + 12, math.MaxInt, math.MinInt} {
		add(func(m *api.Manifest) { m.Long = x })
	}
	for _, x := range []int{0, -1, 65, 256 + 3, 1<<32 + 3, math.MaxInt, math.MinInt} {
		add(func(m *api.Manifest) { m.Size = x })
	}
	for _, x := range []int{-1, api.MaxSeed + 1, 1 << 57, math.MaxInt, math.MinInt} {
		add(func(m *api.Manifest) { m.Seed = x })
	}
	for _, x := range []api.Ratio{{}, {N: 2, D: 4}, {N: 0, D: 1}, {N: 1, D: 0}, {N: -1, D: 2}, {N: 1, D: -2}, {N: 3, D: 2}, {N: 1, D: 1001}, {N: 1, D: 5}, {N: 1<<16 + 1, D: 1<<16 + 2}, {N: math.MaxInt, D: math.MaxInt}, {N: math.MinInt, D: math.MinInt}, {N: 1, D: math.MaxInt}} {
		add(func(m *api.Manifest) { m.Code.Eps = x })
	}
	for _, x := range []int{0, -1, 9, 256 + 2, 1<<32 + 2, math.MaxInt, math.MinInt} {
		add(func(m *api.Manifest) { m.Code.Q = x })
	}
	for _, x := range []int{0, 1, -1, 65, 256 + 4, 1<<32 + 4, math.MaxInt, math.MinInt} {
		add(func(m *api.Manifest) { m.Code.F = x })
	}
	for _, x := range []string{"", root()[1:], root() + "x", root() + root(), "x", strings.Repeat("x", 70000)} {
		add(func(m *api.Manifest) { m.Root = x })
	}
	return l
}

// textByDocument writes part by part.
func textByDocument(m api.Manifest) string {
	b := []byte("mos1")
	b = binary.BigEndian.AppendUint16(b, uint16(m.Long))
	b = append(b, byte(m.Size))
	b = append(b, binary.BigEndian.AppendUint64(nil, uint64(m.Seed))[1:]...)
	b = binary.BigEndian.AppendUint16(b, uint16(m.Code.Eps.N))
	b = binary.BigEndian.AppendUint16(b, uint16(m.Code.Eps.D))
	b = append(b, byte(m.Code.Q), byte(m.Code.F))
	return string(b) + m.Root
}

// readByDocument takes the parts at their places, and asks of each one whether it may be.
func readByDocument(s string) (m api.Manifest, is bool) {
	if len(s) != 52 || s[:4] != "mos1" {
		return m, false
	}
	at := func(i, n int) int {
		x := 0
		for _, c := range []byte(s[i : i+n]) {
			x = x*256 + int(c)
		}
		return x
	}
	m = api.Manifest{Long: at(4, 2), Size: at(6, 1), Seed: at(7, 7), Code: api.Code{Eps: api.Ratio{N: at(14, 2), D: at(16, 2)}, Q: at(18, 1), F: at(19, 1)}, Root: s[20:]}
	n, d := m.Code.Eps.N, m.Code.Eps.D
	is = m.Long >= 1 && m.Long <= 4096 && m.Size >= 1 && m.Size <= 64 && m.Long <= 96*m.Size && n >= 1 && n <= d && d <= 1000 && m.Code.Q >= 1 && m.Code.Q <= 8 && m.Code.F >= 2 && m.Code.F <= 64 && m.Code.F*n >= d
	for k := 2; is && k <= n; k++ {
		is = n%k != 0 || d%k != 0
	}
	return m, is
}

// auxByDocument counts up to 55/100 Q Eps n.
func auxByDocument(c api.Code, n int) int {
	aux := 0
	for aux*100*c.Eps.D < 55*c.Q*c.Eps.N*n {
		aux++
	}
	return min(aux, 64)
}

// 10.1: which manifests may be.
func TestCheck(t *testing.T) {
	for _, m := range rightOnes() {
		if !Check(m) {
			t.Errorf("%v may not be", m)
		}
	}
	for _, m := range wrongOnes() {
		if Check(m) {
			t.Errorf("%v may be", m)
		}
	}
}

// 10.1: the shape, and how many blocks there are; the example.
func TestPlan(t *testing.T) {
	for _, m := range rightOnes() {
		n := (m.Long + m.Size - 1) / m.Size
		want := outer.Plan{Seed: m.Seed, N: n, Aux: auxByDocument(m.Code, n), Q: m.Code.Q}
		if p, e := Plan(m); e != api.OK || p != want || !outer.Check(p) {
			t.Errorf("Plan(%v) = %v, %v, want %v", m, p, e, want)
		}
		if All(m) != want.N+want.Aux {
			t.Errorf("All(%v) = %d, want %d", m, All(m), want.N+want.Aux)
		}
	}
	m, _, _ := Publish("hello", Want{Size: 2, Code: api.Code{Eps: api.Ratio{N: 1, D: 2}, Q: 1, F: 4}})
	if p, e := Plan(m); e != api.OK || p != (outer.Plan{N: 3, Aux: 1, Q: 1}) || All(m) != 4 {
		t.Errorf("the example: %v, %v", p, e)
	}
	for _, m := range wrongOnes() {
		if p, e := Plan(m); e != api.ErrArg || p != (outer.Plan{}) {
			t.Errorf("Plan(%v) = %v, %v", m, p, e)
		}
		if All(m) != 0 {
			t.Errorf("All(%v) = %d", m, All(m))
		}
	}
}

// 10.1: a manifest's bytes are 52, and its name is their sum.
func TestTextAndName(t *testing.T) {
	names := map[string]bool{}
	for _, m := range rightOnes() {
		want := textByDocument(m)
		if s := Text(m); s != want || len(s) != 52 {
			t.Errorf("Text(%v) = %x, want %x", m, s, want)
		}
		sum := sha256.Sum256([]byte(want))
		if Name(m) != string(sum[:]) {
			t.Errorf("Name(%v) = %x, want %x", m, Name(m), sum)
		}
		names[Name(m)] = true
	}
	if len(names) != len(rightOnes()) {
		t.Errorf("%d names of %d manifests", len(names), len(rightOnes()))
	}
	for _, m := range wrongOnes() {
		if Text(m) != "" || Name(m) != "" {
			t.Errorf("%v: the text %x, the name %x", m, Text(m), Name(m))
		}
	}
}

// 10.1, 10.3: what is written is read.
func TestRead(t *testing.T) {
	for _, m := range rightOnes() {
		if got, e := Read(textByDocument(m)); e != api.OK || got != m {
			t.Errorf("Read of %v: %v, %v", m, got, e)
		}
	}
}

// 10.1, 10.3: with each byte changed to each other one: what is read is written in no other way.
func TestReadWithAByteChanged(t *testing.T) {
	read, not := 0, 0
	for _, m := range []api.Manifest{rightOnes()[0], rightOnes()[1], rightOnes()[17]} {
		for i := range 52 {
			for c := range 256 {
				b := []byte(textByDocument(m))
				b[i] = byte(c)
				s := string(b)
				want, is := readByDocument(s)
				got, e := Read(s)
				if is && (e != api.OK || got != want || Text(got) != s) || !is && (e != api.ErrForm || got != (api.Manifest{})) {
					t.Errorf("Read(%x) = %v, %v, want %v, %v", s, got, e, want, is)
				}
				if is {
					read++
				} else {
					not++
				}
			}
		}
	}
	if read < 1000 || not < 1000 {
		t.Errorf("%d are read, %d are not", read, not)
	}
}

// 10.1: bytes that are too few or too many, that begin otherwise, and those of manifests that may not be.
func TestReadOfNone(t *testing.T) {
	s := textByDocument(rightOnes()[0])
	wrong := []string{s + "x", s + "\x00", s + s, "\x00" + s, s[1:], s[4:], "mos2" + s[4:], "MOS1" + s[4:], "mos" + s[4:], "mos11" + s[4:], strings.Repeat("\x00", 52), strings.Repeat("\xff", 52), strings.Repeat("mos1", 13), strings.Repeat(s, 2000)}
	for i := range s {
		wrong = append(wrong, s[:i], s[:i]+s[i+1:], s[:i]+"\x00"+s[i:])
	}
	for _, x := range wrongOnes() {
		if b := textByDocument(x); len(b) != 52 || !isRead(b) {
			wrong = append(wrong, b)
		}
	}
	for _, x := range wrong {
		if m, e := Read(x); e != api.ErrForm || m != (api.Manifest{}) {
			t.Errorf("Read(%x) = %v, %v", x, m, e)
		}
	}
}

// isRead tells whether bytes are those of a manifest: numbers that are too great for their sizes may become such.
func isRead(s string) bool {
	_, is := readByDocument(s)
	return is
}

// text is so many bytes, none of which is 0.
func text(long, shift int) string {
	b := make([]byte, long)
	for i := range b {
		b[i] = byte(1 + (i*11+i/255+shift)%255)
	}
	return string(b)
}

// 10.2, 10.3: what is published: the file's blocks, the auxiliary ones, their root; it is owned, and is the file.
func TestPublish(t *testing.T) {
	for k, want := range rightOnes() {
		file := text(want.Long, k)
		m, w, e := Publish(file, Want{want.Size, want.Seed, want.Code})
		if e != api.OK {
			t.Fatalf("Publish of %v: %v", want, e)
		}
		want.Root = rootByDocument(w)
		if m != want || !Check(m) {
			t.Errorf("Publish: %v, want %v", m, want)
		}
		n := (len(file) + m.Size - 1) / m.Size
		if len(w) != n+auxByDocument(m.Code, n) || len(w) != All(m) || strings.Join(w[:n], "") != file+strings.Repeat("\x00", n*m.Size-len(file)) {
			t.Errorf("Publish of %d bytes by %d: %d blocks", len(file), m.Size, len(w))
		}
		p, _ := Plan(m)
		if !outer.Holds(p, w) || !Owns(m, w) {
			t.Errorf("what is published is not owned: %v", m)
		}
		if got, e := File(m, w); e != api.OK || got != file {
			t.Errorf("File of %v: %d bytes, %v", m, len(got), e)
		}
		if n, again, _ := Publish(file, Want{m.Size, m.Seed, m.Code}); n != m || !slices.Equal(again, w) {
			t.Errorf("what is published twice is not the same")
		} else {
			clear(again)
			if !Owns(m, w) {
				t.Errorf("two wholes share memory")
			}
		}
	}
}

// rootByDocument takes the greatest power of 2 below the count to the left.
func rootByDocument(l []string) string {
	if len(l) == 1 {
		sum := sha256.Sum256([]byte("\x00" + l[0]))
		return string(sum[:])
	}
	k := 1
	for 2*k < len(l) {
		k *= 2
	}
	sum := sha256.Sum256([]byte("\x01" + rootByDocument(l[:k]) + rootByDocument(l[k:])))
	return string(sum[:])
}

// 10.2: what can't be published: Cut's errors come first, then those of the seed and the code.
func TestPublishErrors(t *testing.T) {
	for _, x := range []struct {
		file string
		w    Want
		want api.Errno
	}{
		{"", Want{3, 0, half()}, api.ErrArg}, {"a", Want{0, 0, half()}, api.ErrArg}, {"a", Want{65, 0, half()}, api.ErrArg}, {"a", Want{-1, 0, half()}, api.ErrArg}, {"a", Want{math.MinInt, 0, half()}, api.ErrArg}, {"a", Want{math.MaxInt, 0, half()}, api.ErrArg},
		{text(97, 0), Want{1, 0, half()}, api.ErrLong}, {text(4097, 0), Want{64, 0, half()}, api.ErrLong}, {text(4096, 0), Want{42, 0, half()}, api.ErrLong}, {text(70000, 0), Want{64, 0, half()}, api.ErrLong},
		{text(97, 0), Want{1, -1, half()}, api.ErrLong}, {text(97, 0), Want{1, 0, api.Code{}}, api.ErrLong}, {text(97, 0), Want{0, -1, api.Code{}}, api.ErrArg},
		{"a", Want{1, -1, half()}, api.ErrArg}, {"a", Want{1, api.MaxSeed + 1, half()}, api.ErrArg}, {"a", Want{1, math.MinInt, half()}, api.ErrArg}, {"a", Want{1, math.MaxInt, half()}, api.ErrArg}, {"a", Want{1, 0, api.Code{}}, api.ErrArg}, {"", Want{}, api.ErrArg},
	} {
		if m, w, e := Publish(x.file, x.w); e != x.want || m != (api.Manifest{}) || w != nil {
			t.Errorf("Publish of %d bytes, %v: %v, %q, %v, want %v", len(x.file), x.w, m, w, e, x.want)
		}
	}
	for _, m := range wrongOnes() {
		if m.Long != 12 || m.Size != 3 || len(m.Root) != 32 {
			continue
		}
		if m, w, e := Publish("hello, world", Want{m.Size, m.Seed, m.Code}); e != api.ErrArg || m != (api.Manifest{}) || w != nil {
			t.Errorf("Publish of %v: %q, %v", m, w, e)
		}
	}
}

// spoilt is a list with one bit of the i-th text changed.
func spoilt(l []string, i, bit int) []string {
	out := slices.Clone(l)
	b := []byte(out[i])
	b[bit/8] ^= 1 << (bit % 8)
	out[i] = string(b)
	return out
}

// others are wholes that are none of what was published: of other blocks, of other order, of other count, of other sizes.
func others(w []string) [][]string {
	l := [][]string{nil, {}, w[1:], w[:len(w)-1], append(slices.Clone(w), w[0]), append(slices.Clone(w), ""), {strings.Join(w, "")}}
	for i := range w {
		for bit := range 8 * len(w[i]) {
			l = append(l, spoilt(w, i, bit))
		}
		for _, s := range []string{"", w[i][1:], w[i] + "\x00", w[i] + w[i]} {
			x := slices.Clone(w)
			x[i] = s
			l = append(l, x)
		}
		x := slices.Clone(w)
		x[i], x[0] = x[0], x[i]
		if i > 0 {
			l = append(l, x)
		}
	}
	return l
}

// 10.2, 10.3: no other whole is a manifest's own; and there is no witness in what was summed.
func TestOwns(t *testing.T) {
	m, w, _ := Publish("hello, world!", Want{3, 9, half()})
	kept := slices.Clone(w)
	if !Owns(m, w) || !slices.Equal(kept, w) {
		t.Fatalf("the whole is not owned")
	}
	for _, x := range others(w) {
		if Owns(m, x) {
			t.Errorf("%q is owned too", x)
		}
		if a, b, is := merkle.Witness(slices.Concat(merkle.Texts(w), merkle.Texts(x))); is {
			t.Errorf("a witness: %q and %q", a, b)
		}
	}
}

// 10.2: what another manifest owns: with another root none of it; a root alone does not do, where the blocks are not as it says.
func TestOwnsOfOtherManifests(t *testing.T) {
	m, w, _ := Publish("hello, world!", Want{3, 9, half()})
	for bit := range 256 {
		n := m
		n.Root = spoilt([]string{m.Root}, 0, bit)[0]
		if Owns(n, w) {
			t.Errorf("with bit %d of the root changed it is owned", bit)
		}
	}
	for _, n := range wrongOnes() {
		if len(n.Root) == 32 {
			n.Root = m.Root
		}
		if Owns(n, w) || Owns(n, nil) {
			t.Errorf("%v owns something", n)
		}
	}
	for _, size := range []int{2, 4} {
		l := slices.Repeat([]string{strings.Repeat("a", size)}, len(w))
		n := m
		n.Root, _ = merkle.Root(l)
		if Owns(n, l) {
			t.Errorf("blocks of %d bytes are owned", size)
		}
	}
	for _, count := range []int{1, 5, len(w) - 1, len(w) + 1, 160, 256} {
		l := slices.Repeat([]string{"abc"}, count)
		n := m
		n.Root, _ = merkle.Root(l)
		if Owns(n, l) {
			t.Errorf("%d blocks are owned", count)
		}
	}
	// What makes a whole a manifest's own is the root alone: whether the rules hold nobody asks.
	l := slices.Repeat([]string{"abc"}, len(w))
	n := m
	n.Root, _ = merkle.Root(l)
	if !Owns(n, l) {
		t.Errorf("what has the root is not owned")
	}
}

// 10.2: the file of a whole: of the message blocks alone, whether they are owned or not; bytes behind it that are not 0 are bad.
func TestFile(t *testing.T) {
	m, w, _ := Publish("hello, world!", Want{3, 9, half()})
	kept := slices.Clone(w)
	p, _ := Plan(m)
	for i := range w {
		for bit := range 24 {
			x := spoilt(w, i, bit)
			want, err := block.Join(x[:p.N], 13)
			if got, e := File(m, x); e != err || got != want {
				t.Errorf("File with bit %d of block %d changed: %q, %v, want %q, %v", bit, i, got, e, want, err)
			}
			if bad := i == p.N-1 && bit >= 8; bad != (err == api.ErrBad) {
				t.Errorf("bit %d of block %d: %v", bit, i, err)
			}
		}
	}
	if got, e := File(m, w); got != "hello, world!" || e != api.OK || !slices.Equal(w, kept) {
		t.Errorf("File: %q, %v", got, e)
	}
}

// 10.2: what has no file: wholes of other counts and sizes, manifests that may not be.
func TestFileErrors(t *testing.T) {
	m, w, _ := Publish("hello, world!", Want{3, 9, half()})
	for _, x := range others(w) {
		if len(x) == len(w) && !slices.ContainsFunc(x, func(s string) bool { return len(s) != 3 }) {
			continue
		}
		if got, e := File(m, x); got != "" || e != api.ErrArg {
			t.Errorf("File of %q: %q, %v", x, got, e)
		}
	}
	for _, l := range [][]string{slices.Repeat([]string{"ab"}, len(w)), slices.Repeat([]string{"abcd"}, len(w)), slices.Repeat([]string{""}, len(w))} {
		if got, e := File(m, l); got != "" || e != api.ErrArg {
			t.Errorf("File of %q: %q, %v", l, got, e)
		}
	}
	for _, n := range wrongOnes() {
		for _, l := range [][]string{nil, w} {
			if got, e := File(n, l); got != "" || e != api.ErrArg {
				t.Errorf("File of %v: %q, %v", n, got, e)
			}
		}
	}
}
