package wire

import (
	"encoding/binary"
	"math"
	"math/rand"
	"slices"
	"strings"
	"testing"

	"mosaic/api"
	"mosaic/manifest"
)

// digest is 32 bytes of all kinds, that begin with c.
func digest(c byte) string {
	return string([]byte{c}) + "\x00\xff\x80 0123456789abcdefghijklmnopq"
}

// path is so many digests.
func path(n int) []string {
	var l []string
	for i := range n {
		l = append(l, digest(byte(i)))
	}
	return l
}

// offered is a manifest that may be.
func offered() api.Manifest {
	return api.Manifest{Long: 12, Size: 3, Seed: 9, Code: api.Code{Eps: api.Ratio{N: 1, D: 2}, Q: 2, F: 4}, Root: digest('r')}
}

// full is a message of a kind of which everything is something, whatever the kind has.
func full(kind int) api.Msg {
	return api.Msg{Kind: kind, Place: api.Place{X: -3, Y: 5}, Name: digest('n'), Have: "\x05", On: true, Head: api.Head{Mode: api.ModeSome, Seed: 258, Have: "\x06\x07"}, Data: "ab", Num: 7, Digest: digest('d'), Path: path(2), M: offered()}
}

// parts are the names of a message's parts, in the order of its bytes.
func parts() []string {
	return []string{"Place", "Name", "Have", "On", "Head", "Data", "Num", "Digest", "Path", "M"}
}

// has are the parts that a kind has, by the document; false, if there is no such kind.
func has(kind int) ([]string, bool) {
	l, is := map[int][]string{
		1: {"Place", "Name"}, 2: {"Have"}, 3: {"On"}, 4: nil, 5: nil, 6: {"Head", "Data"}, 7: {"Num"}, 8: {"Num", "Digest", "Path"}, 9: {"M"}, 10: nil, 11: nil,
	}[kind]
	return l, is
}

// with is a message with one part as in another one.
func with(m api.Msg, part string, from api.Msg) api.Msg {
	switch part {
	case "Place":
		m.Place = from.Place
	case "Name":
		m.Name = from.Name
	case "Have":
		m.Have = from.Have
	case "On":
		m.On = from.On
	case "Head":
		m.Head = from.Head
	case "Data":
		m.Data = from.Data
	case "Num":
		m.Num = from.Num
	case "Digest":
		m.Digest = from.Digest
	case "Path":
		m.Path = from.Path
	case "M":
		m.M = from.M
	}
	return m
}

// only is a message with what its kind has, and nothing else.
func only(m api.Msg) api.Msg {
	out := api.Msg{Kind: m.Kind}
	l, _ := has(m.Kind)
	for _, part := range l {
		out = with(out, part, m)
	}
	return out
}

// sameByDocument goes through all parts, texts of a path one by one.
func sameByDocument(a, b api.Msg) bool {
	if a.Kind != b.Kind || a.Place.X != b.Place.X || a.Place.Y != b.Place.Y || a.Name != b.Name || a.Have != b.Have || a.On != b.On || a.Head.Mode != b.Head.Mode || a.Head.Seed != b.Head.Seed || a.Head.Have != b.Head.Have || a.Data != b.Data || a.Num != b.Num || a.Digest != b.Digest || a.M != b.M || len(a.Path) != len(b.Path) {
		return false
	}
	for i := range a.Path {
		if a.Path[i] != b.Path[i] {
			return false
		}
	}
	return true
}

// textByDocument writes part by part, whatever is written.
func textByDocument(m api.Msg) string {
	num := func(n, size int) string {
		return string(binary.BigEndian.AppendUint64(nil, uint64(n))[8-size:])
	}
	text := func(s string) string { return num(len(s), 2) + s }
	s := num(m.Kind, 1)
	l, _ := has(m.Kind)
	for _, part := range l {
		switch part {
		case "Place":
			s += num(m.Place.X+1048576, 3) + num(m.Place.Y+1048576, 3)
		case "Name":
			s += m.Name
		case "Have":
			s += text(m.Have)
		case "On":
			if m.On {
				s += "\x01"
			} else {
				s += "\x00"
			}
		case "Head":
			s += num(m.Head.Mode, 1) + num(m.Head.Seed, 7) + text(m.Head.Have)
		case "Data":
			s += text(m.Data)
		case "Num":
			s += num(m.Num, 1)
		case "Digest":
			s += m.Digest
		case "Path":
			s += num(len(m.Path), 1) + strings.Join(m.Path, "")
		case "M":
			s += manifest.Text(m.M)
		}
	}
	return s
}

// readByDocument takes part by part, and asks of each one whether it may be.
func readByDocument(s string) (m api.Msg, is bool) {
	is = true
	raw := func(n int) string {
		if n > len(s) {
			is, n = false, len(s)
		}
		part := s[:n]
		s = s[n:]
		return part
	}
	num := func(size, least, most int) int {
		n := 0
		for _, c := range []byte(raw(size)) {
			n = 256*n + int(c)
		}
		is = is && least <= n && n <= most
		return n
	}
	text := func(least, most int) string { return raw(num(2, least, most)) }
	m.Kind = num(1, 1, 11)
	l, _ := has(m.Kind)
	for _, part := range l {
		switch part {
		case "Place":
			m.Place = api.Place{X: num(3, 0, 2097152) - 1048576, Y: num(3, 0, 2097152) - 1048576}
		case "Name":
			m.Name = raw(32)
		case "Have":
			m.Have = text(0, 20)
		case "On":
			m.On = num(1, 0, 1) == 1
		case "Head":
			m.Head = api.Head{Mode: num(1, 0, 2), Seed: num(7, 0, 1<<56-1), Have: text(0, 20)}
		case "Data":
			m.Data = text(1, 64)
		case "Num":
			m.Num = num(1, 0, 159)
		case "Digest":
			m.Digest = raw(32)
		case "Path":
			for range num(1, 0, 8) {
				m.Path = append(m.Path, raw(32))
			}
		case "M":
			var e api.Errno
			m.M, e = manifest.Read(raw(len(s)))
			is = is && e == api.OK
		}
	}
	if !is || s != "" {
		return api.Msg{}, false
	}
	return m, true
}

// rightOnes are messages that may be, at the edges of each part.
func rightOnes() []api.Msg {
	var l []api.Msg
	for kind := 1; kind <= 11; kind++ {
		l = append(l, only(full(kind)))
	}
	const top = api.MaxPlace
	for _, at := range []api.Place{{}, {X: top, Y: top}, {X: -top, Y: -top}, {X: top, Y: -top}, {X: -1}, {Y: -1}, {X: 1, Y: 256}, {X: 65536, Y: -65536}} {
		l = append(l, api.Msg{Kind: api.MsgHello, Place: at, Name: digest(0)})
	}
	for _, have := range []string{"", "\x00", "\x00\x01", strings.Repeat("\xff", 19), strings.Repeat("\xff", 20), strings.Repeat("\x00", 20)} {
		l = append(l, api.Msg{Kind: api.MsgHave, Have: have})
		for _, mode := range []int{api.ModeAll, api.ModeSome, api.ModeOne} { // whose head may be one that tells of nothing (layer 11): a message may have it
			l = append(l, api.Msg{Kind: api.MsgCheck, Head: api.Head{Mode: mode, Seed: 3, Have: have}, Data: "x"})
		}
	}
	l = append(l, api.Msg{Kind: api.MsgWant})
	for _, seed := range []int{0, 1, 255, 256, 0x01020304050607, api.MaxSeed - 1, api.MaxSeed} {
		l = append(l, api.Msg{Kind: api.MsgCheck, Head: api.Head{Seed: seed}, Data: "\x00"})
	}
	for _, long := range []int{1, 2, 63, 64} {
		l = append(l, api.Msg{Kind: api.MsgCheck, Data: strings.Repeat("\xfe", long)})
	}
	for _, num := range []int{0, 1, 127, 128, 158, 159} {
		l = append(l, api.Msg{Kind: api.MsgAsk, Num: num}, api.Msg{Kind: api.MsgProof, Num: num, Digest: digest(1)})
	}
	for n := range 9 {
		l = append(l, api.Msg{Kind: api.MsgProof, Num: 1, Digest: digest(2), Path: path(n)})
	}
	m := offered()
	m.Long, m.Size, m.Seed = 4096, 64, api.MaxSeed
	return append(l, api.Msg{Kind: api.MsgOffer, M: m})
}

// wrongOnes are messages that may not be, in one part each; and those of no kind.
func wrongOnes() []api.Msg {
	var l []api.Msg
	add := func(kind int, change func(m *api.Msg)) {
		m := only(full(kind))
		change(&m)
		l = append(l, m)
	}
	for _, kind := range []int{0, -1, 12, 13, 255, 256, 257, 256 + 10, 1<<32 + 10, math.MaxInt, math.MinInt} {
		l = append(l, api.Msg{Kind: kind}, full(kind))
	}
	for _, x := range []int{api.MaxPlace + 1, -api.MaxPlace - 1, 1<<24 - api.MaxPlace, 1 << 32, math.MaxInt, math.MaxInt - api.MaxPlace, math.MinInt} {
		add(api.MsgHello, func(m *api.Msg) { m.Place.X = x })
		add(api.MsgHello, func(m *api.Msg) { m.Place.Y = x })
	}
	for _, x := range []string{"", "x", digest(0)[1:], digest(0) + "x", digest(0) + digest(0), strings.Repeat("x", 70000)} {
		add(api.MsgHello, func(m *api.Msg) { m.Name = x })
		add(api.MsgProof, func(m *api.Msg) { m.Digest = x })
		add(api.MsgProof, func(m *api.Msg) { m.Path = []string{x} })
		add(api.MsgProof, func(m *api.Msg) { m.Path = append(path(7), x) })
		add(api.MsgOffer, func(m *api.Msg) { m.M.Root = x })
	}
	for _, long := range []int{21, 22, 256, 257, 65535, 65536, 65537} {
		add(api.MsgHave, func(m *api.Msg) { m.Have = strings.Repeat("h", long) })
		add(api.MsgCheck, func(m *api.Msg) { m.Head.Have = strings.Repeat("h", long) })
	}
	for _, long := range []int{0, 65, 66, 256, 65535, 65536, 65537} {
		add(api.MsgCheck, func(m *api.Msg) { m.Data = strings.Repeat("d", long) })
	}
	for _, x := range []int{-1, 3, 4, 256, 257, 1 << 32, math.MaxInt, math.MinInt} {
		add(api.MsgCheck, func(m *api.Msg) { m.Head.Mode = x })
	}
	for _, x := range []int{-1, api.MaxSeed + 1, 1 << 57, math.MaxInt, math.MinInt} {
		add(api.MsgCheck, func(m *api.Msg) { m.Head.Seed = x })
		add(api.MsgOffer, func(m *api.Msg) { m.M.Seed = x })
	}
	for _, x := range []int{-1, 160, 161, 255, 256, 1 << 32, math.MaxInt, math.MinInt} {
		add(api.MsgAsk, func(m *api.Msg) { m.Num = x })
		add(api.MsgProof, func(m *api.Msg) { m.Num = x })
	}
	for _, n := range []int{9, 10, 255, 256, 257, 3000} {
		add(api.MsgProof, func(m *api.Msg) { m.Path = path(n) })
	}
	add(api.MsgOffer, func(m *api.Msg) { m.M = api.Manifest{} })
	add(api.MsgOffer, func(m *api.Msg) { m.M.Size = 0 })
	add(api.MsgOffer, func(m *api.Msg) { m.M.Code.Eps = api.Ratio{N: 2, D: 4} })
	return l
}

// 16.1: which messages may be: those with what their kind has as it must be.
func TestCheck(t *testing.T) {
	for _, m := range rightOnes() {
		if !Check(m) {
			t.Errorf("%v may not be", m)
		}
	}
	for _, m := range wrongOnes() {
		if Check(m) {
			t.Errorf("%v may be", m)
		}
	}
}

// 16.1: what a kind does not have is zero, each part and each part of a part; what it has is of full's, so that each part alone tells.
func TestCheckOfWhatAKindHasNot(t *testing.T) {
	for kind := 1; kind <= 11; kind++ {
		l, _ := has(kind)
		for _, part := range parts() {
			if slices.Contains(l, part) {
				continue
			}
			if m := with(only(full(kind)), part, full(kind)); Check(m) || Text(m) != "" {
				t.Errorf("of kind %d %s may be something", kind, part)
			}
		}
		some := map[string][]api.Msg{
			"Place": {{Place: api.Place{X: 1}}, {Place: api.Place{Y: -1}}},
			"Head":  {{Head: api.Head{Mode: 1}}, {Head: api.Head{Mode: 2}}, {Head: api.Head{Seed: 1}}, {Head: api.Head{Have: "\x00"}}},
			"Num":   {{Num: -1}, {Num: 256}, {Num: math.MinInt}},
			"Name":  {{Name: "\x00"}}, "Have": {{Have: "\x00"}}, "Data": {{Data: "\x00"}}, "Digest": {{Digest: "\x00"}},
			"Path": {{Path: []string{""}}, {Path: make([]string, 300)}},
			"M":    {{M: api.Manifest{Long: 1}}, {M: api.Manifest{Size: 1}}, {M: api.Manifest{Seed: 1}}, {M: api.Manifest{Root: "x"}}, {M: api.Manifest{Code: api.Code{F: 1}}}},
		}
		for part, from := range some {
			for _, x := range from {
				if m := with(only(full(kind)), part, x); !slices.Contains(l, part) && (Check(m) || Text(m) != "") {
					t.Errorf("of kind %d %s may be something: %v", kind, part, m)
				}
			}
		}
		empty := only(full(kind))
		if !slices.Contains(l, "Path") {
			empty.Path = []string{}
		}
		if !Check(empty) || Text(empty) != textByDocument(empty) {
			t.Errorf("of kind %d an empty path is something", kind)
		}
	}
}

// 16.1, 16.2: a message's bytes; none of one that may not be; never more than api.MaxGram.
func TestText(t *testing.T) {
	longest := 0
	texts := map[string]api.Msg{}
	for _, m := range rightOnes() {
		s := Text(m)
		if want := textByDocument(m); s != want || s == "" {
			t.Errorf("Text(%v) = %x, want %x", m, s, want)
		}
		if n, is := texts[s]; is && !sameByDocument(m, n) {
			t.Errorf("%v and %v are both %x", m, n, s)
		}
		texts[s] = m
		longest = max(longest, len(s))
	}
	if longest != 291 || longest > api.MaxGram { // a proof of eight digests
		t.Errorf("the longest one has %d bytes", longest)
	}
	for _, m := range wrongOnes() {
		if s := Text(m); s != "" {
			t.Errorf("Text(%v) = %x", m, s)
		}
	}
}

// The examples, and others by hand.
func TestExamples(t *testing.T) {
	for s, m := range map[string]api.Msg{
		"\x0a": {Kind: api.MsgPing}, "\x0b": {Kind: api.MsgBye}, "\x04": {Kind: api.MsgChoke}, "\x05": {Kind: api.MsgOpen},
		"\x07\x07": {Kind: api.MsgAsk, Num: 7}, "\x03\x01": {Kind: api.MsgWant, On: true}, "\x03\x00": {Kind: api.MsgWant}, "\x02\x00\x00": {Kind: api.MsgHave},
		"\x01\x00\x00\x00\x20\x00\x00" + digest(7):                                               {Kind: api.MsgHello, Place: api.Place{X: -api.MaxPlace, Y: api.MaxPlace}, Name: digest(7)},
		"\x06\x02\xff\xff\xff\xff\xff\xff\xff\x00\x01h\x00\x01d":                                 {Kind: api.MsgCheck, Head: api.Head{Mode: api.ModeOne, Seed: api.MaxSeed, Have: "h"}, Data: "d"},
		"\x08\x9f" + digest(1) + "\x02" + digest(2) + digest(3):                                  {Kind: api.MsgProof, Num: 159, Digest: digest(1), Path: []string{digest(2), digest(3)}},
		"\x09mos1\x00\x0c\x03\x00\x00\x00\x00\x00\x00\x09\x00\x01\x00\x02\x02\x04" + digest('r'): {Kind: api.MsgOffer, M: offered()},
	} {
		if got := Text(m); got != s {
			t.Errorf("Text(%v) = %x, want %x", m, got, s)
		}
		if got, e := Read(s); e != api.OK || !sameByDocument(got, m) {
			t.Errorf("Read(%x) = %v, %v, want %v", s, got, e, m)
		}
	}
}

// heldAgainst reads bytes, and holds that against what the document says; it tells whether they are a message's.
func heldAgainst(t *testing.T, s string) bool {
	t.Helper()
	want, is := readByDocument(s)
	got, e := Read(s)
	if is && (e != api.OK || !sameByDocument(got, want) || !Check(got) || Text(got) != s || len(s) > api.MaxGram) {
		t.Errorf("Read(%x) = %v, %v, want %v", s, got, e, want)
	}
	if !is && (e != api.ErrForm || !sameByDocument(got, api.Msg{}) || got.Path != nil) {
		t.Errorf("Read(%x) = %v, %v, want ErrForm", s, got, e)
	}
	return is
}

// 16.1, 16.2: what is written is read; with a byte more, or fewer ones, it is that of none, or of another one by the document.
func TestRead(t *testing.T) {
	for _, m := range rightOnes() {
		s := textByDocument(m)
		if got, e := Read(s); e != api.OK || !sameByDocument(got, m) {
			t.Errorf("Read of %v: %v, %v", m, got, e)
		}
		for i := range s {
			heldAgainst(t, s[:i])
			heldAgainst(t, s[i+1:])
			heldAgainst(t, s[:i]+s[i+1:])
			heldAgainst(t, s[:i]+"\x00"+s[i:])
			if _, e := Read(s[:i]); e != api.ErrForm {
				t.Errorf("%d bytes of %x are read", i, s)
			}
		}
		for _, more := range []string{"\x00", "x", "\x0a", s, strings.Repeat("\x00", 400), strings.Repeat("x", 70000)} {
			if _, e := Read(s + more); e != api.ErrForm {
				t.Errorf("%x is read with more behind it", s)
			}
		}
	}
	for _, s := range []string{"", "\x00", "\x0c", "\xff", "0a", strings.Repeat("\x00", 52), strings.Repeat("\x09", 53), strings.Repeat("\x01", 39), strings.Repeat("\xff", 400), strings.Repeat("\xff", 100000)} {
		heldAgainst(t, s)
	}
}

// 16.1, 16.2: with each byte changed to each other one: what is read is written in no other way.
func TestReadWithAByteChanged(t *testing.T) {
	read, not := 0, 0
	for kind := 1; kind <= 11; kind++ {
		s := textByDocument(only(full(kind)))
		for i := range s {
			for c := range 256 {
				b := []byte(s)
				b[i] = byte(c)
				if heldAgainst(t, string(b)) {
					read++
				} else {
					not++
				}
			}
		}
	}
	if read < 10000 || not < 5000 {
		t.Errorf("%d are read, %d are not", read, not)
	}
}

// 16.1: the bytes of messages that may not be, written all the same, are read as none; or as another one, where a number was cut to its size.
func TestReadOfWrongOnes(t *testing.T) {
	not := 0
	for _, m := range wrongOnes() {
		if !heldAgainst(t, textByDocument(m)) {
			not++
		}
	}
	if not < 60 {
		t.Errorf("%d are not read", not)
	}
}

// all bytes up to two, and any others of each kind.
func TestReadOfAnyBytes(t *testing.T) {
	for a := range 256 {
		heldAgainst(t, string([]byte{byte(a)}))
		for b := range 256 {
			heldAgainst(t, string([]byte{byte(a), byte(b)}))
		}
	}
	chance := rand.New(rand.NewSource(16))
	read := 0
	for range 200000 {
		b := make([]byte, chance.Intn(60))
		chance.Read(b)
		for i := range b {
			if chance.Intn(3) > 0 { // small ones are lengths that may be
				b[i] %= 12
			}
		}
		if heldAgainst(t, string(b)) {
			read++
		}
	}
	if read < 1000 {
		t.Errorf("%d are read", read)
	}
}

// 16.1: two messages are the same, if they are so in all: messages that may not be, too.
func TestSame(t *testing.T) {
	all := append(rightOnes(), wrongOnes()...)
	for i, a := range all {
		for j, b := range all {
			if Same(a, b) != sameByDocument(a, b) {
				t.Errorf("Same of %d and %d: %v", i, j, Same(a, b))
			}
		}
	}
	a := full(99)
	if b := full(99); !Same(a, b) || !Same(b, a) || !Same(api.Msg{}, api.Msg{Path: []string{}}) || !Same(api.Msg{Path: []string{}}, api.Msg{}) {
		t.Errorf("what is the same is not")
	}
	for i, change := range []func(m *api.Msg){
		func(m *api.Msg) { m.Kind++ }, func(m *api.Msg) { m.Place.X++ }, func(m *api.Msg) { m.Place.Y++ }, func(m *api.Msg) { m.Name += "x" }, func(m *api.Msg) { m.Have = "" }, func(m *api.Msg) { m.On = false },
		func(m *api.Msg) { m.Head.Mode++ }, func(m *api.Msg) { m.Head.Seed++ }, func(m *api.Msg) { m.Head.Have += "x" }, func(m *api.Msg) { m.Data = "aB" }, func(m *api.Msg) { m.Num = -7 }, func(m *api.Msg) { m.Digest = "" },
		func(m *api.Msg) { m.Path = nil }, func(m *api.Msg) { m.Path = m.Path[:1] }, func(m *api.Msg) { m.Path = append(m.Path, "") }, func(m *api.Msg) { m.Path[0] = "x" }, func(m *api.Msg) { m.Path[1] = m.Path[0] },
		func(m *api.Msg) { m.M.Long++ }, func(m *api.Msg) { m.M.Size++ }, func(m *api.Msg) { m.M.Seed++ }, func(m *api.Msg) { m.M.Code.Eps.N++ }, func(m *api.Msg) { m.M.Code.Eps.D++ }, func(m *api.Msg) { m.M.Code.Q++ }, func(m *api.Msg) { m.M.Code.F++ }, func(m *api.Msg) { m.M.Root += "x" },
	} {
		b := full(99)
		change(&b)
		if Same(a, b) || Same(b, a) {
			t.Errorf("with change %d they are the same", i)
		}
	}
}

// R3: a path that is handed in is not changed, and one that is answered is new.
func TestPathIsNotShared(t *testing.T) {
	m := only(full(api.MsgProof))
	kept := slices.Clone(m.Path)
	s := Text(m)
	a, _ := Read(s)
	b, _ := Read(s)
	if !Check(m) || !Same(a, m) || !slices.Equal(m.Path, kept) {
		t.Fatalf("the path is changed: %q", m.Path)
	}
	clear(a.Path)
	if !Same(b, m) || Text(b) != s || Text(m) != s {
		t.Errorf("two paths share memory")
	}
}
