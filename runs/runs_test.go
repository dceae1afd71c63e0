package runs

import (
	"fmt"
	"math"
	"slices"
	"strings"
	"testing"

	"mosaic/api"
	"mosaic/bits"
)

// wrongBounds are numbers below which there is no set.
func wrongBounds() []int {
	return []int{-1, -160, api.MaxAll + 1, 168, 255, 1 << 32, math.MaxInt, math.MinInt}
}

// set is the set of numbers, and fails if there is none.
func set(t *testing.T, n int, l []int) string {
	t.Helper()
	s, e := bits.Of(n, l)
	if e != api.OK {
		t.Fatalf("bits.Of(%d, %d): %v", n, l, e)
	}
	return s
}

// subsets are all lists of numbers below n, rising.
func subsets(n int) [][]int {
	var all [][]int
	for which := range 1 << n {
		var l []int
		for i := range n {
			if which>>i&1 == 1 {
				l = append(l, i)
			}
		}
		all = append(all, l)
	}
	return all
}

// someLists are lists of numbers below n: those of each few numbers, and of many kinds of greater ones.
func someLists(n int) [][]int {
	if n <= 6 {
		return subsets(n)
	}
	var l [][]int
	for _, step := range []int{1, 2, 3, 5, 8, 13, 40} {
		for most := 0; most <= step; most += 1 + step/4 {
			var a, b []int
			for i := range n {
				if i%step < most {
					a = append(a, i)
				} else {
					b = append(b, i)
				}
			}
			l = append(l, a, b)
		}
	}
	return append(l, []int{0}, []int{n - 1}, []int{0, n - 1}, []int{n - 2, n - 1}, []int{1, 2})
}

// runsByDocument are the runs of a list that rises: a number next to the one ahead is in the same run.
func runsByDocument(l []int) []api.Span {
	var out []api.Span
	for _, i := range l {
		if k := len(out); k > 0 && out[k-1].Hi == i {
			out[k-1].Hi++
		} else {
			out = append(out, api.Span{Lo: i, Hi: i + 1})
		}
	}
	return out
}

// othersOf are the numbers below n that a list has not.
func othersOf(n int, l []int) []int {
	var out []int
	for i := range n {
		if !slices.Contains(l, i) {
			out = append(out, i)
		}
	}
	return out
}

// packedByDocument are the packed bytes of a list that rises.
func packedByDocument(l []int) string {
	var b []byte
	end := 0
	for _, r := range runsByDocument(l) {
		b = append(b, byte(r.Lo-end), byte(r.Hi-r.Lo))
		end = r.Hi
	}
	return string(b)
}

// textByDocument is the text of a list that rises.
func textByDocument(l []int) string {
	s := ""
	for _, r := range runsByDocument(l) {
		s += fmt.Sprintf(",%d", r.Lo)
		if r.Hi > r.Lo+1 {
			s += fmt.Sprintf("-%d", r.Hi-1)
		}
	}
	if s == "" {
		return "-"
	}
	return s[1:]
}

// unlikeByDocument are the numbers that just one of two lists has.
func unlikeByDocument(n int, a, b []int) []int {
	var out []int
	for i := range n {
		if slices.Contains(a, i) != slices.Contains(b, i) {
			out = append(out, i)
		}
	}
	return out
}

// noSets are pairs of a bound and a text that is no set below it.
func noSets() []struct {
	n int
	s string
} {
	type pair = struct {
		n int
		s string
	}
	l := []pair{{10, ""}, {10, "\x09"}, {10, "\x09\x04"}, {10, "\x09\x80"}, {10, "\x09\x02\x00"}, {0, "\x00"}, {0, "a"}, {8, ""}, {8, "\x00\x00"}, {7, "\x80"}, {160, strings.Repeat("\x00", 21)}, {160, strings.Repeat("\x00", 19)}, {159, strings.Repeat("\xff", 20)}}
	for _, n := range wrongBounds() {
		l = append(l, pair{n, ""}, pair{n, "\x00"}, pair{n, strings.Repeat("\x00", 21)})
	}
	return l
}

// 25.1: the runs of sets, and of what they have not.
func TestOfAndGaps(t *testing.T) {
	for n := range api.MaxAll + 1 {
		for _, l := range someLists(n) {
			s := set(t, n, l)
			if got, e := Of(n, s); !slices.Equal(got, runsByDocument(l)) || e != api.OK {
				t.Errorf("Of(%d, %x) = %v, %v, want %v", n, s, got, e, runsByDocument(l))
			}
			want := runsByDocument(othersOf(n, l))
			if got, e := Gaps(n, s); !slices.Equal(got, want) || e != api.OK {
				t.Errorf("Gaps(%d, %x) = %v, %v, want %v", n, s, got, e, want)
			}
		}
	}
}

// 25.1 to 25.4: the example.
func TestExample(t *testing.T) {
	s := set(t, 10, []int{0, 1, 2, 5, 7, 8})
	if got, e := Of(10, s); !slices.Equal(got, []api.Span{{Lo: 0, Hi: 3}, {Lo: 5, Hi: 6}, {Lo: 7, Hi: 9}}) || e != api.OK {
		t.Errorf("Of: %v, %v", got, e)
	}
	if got, e := Gaps(10, s); !slices.Equal(got, []api.Span{{Lo: 3, Hi: 5}, {Lo: 6, Hi: 7}, {Lo: 9, Hi: 10}}) || e != api.OK {
		t.Errorf("Gaps: %v, %v", got, e)
	}
	if got, e := Pack(10, s); got != "\x00\x03\x02\x01\x01\x02" || e != api.OK {
		t.Errorf("Pack: %x, %v", got, e)
	}
	if got, e := Text(10, s); got != "0-2,5,7-8" || e != api.OK {
		t.Errorf("Text: %q, %v", got, e)
	}
	if got, e := Unpack(10, "\x00\x03\x02\x01\x01\x02"); got != s || e != api.OK {
		t.Errorf("Unpack: %x, %v", got, e)
	}
	if got, e := Read(10, "0-2,5,7-8"); got != s || e != api.OK {
		t.Errorf("Read: %x, %v", got, e)
	}
	if got, e := Patch(10, s, set(t, 10, []int{1, 5, 9})); got != "\x00\x01\x01\x01\x04\x03" || e != api.OK {
		t.Errorf("Patch: %x, %v", got, e)
	}
}

// 25.1, 25.2, 25.3: a text that is no set.
func TestNoSets(t *testing.T) {
	for _, x := range noSets() {
		if got, e := Of(x.n, x.s); len(got) != 0 || e != api.ErrForm {
			t.Errorf("Of(%d, %x) = %v, %v", x.n, x.s, got, e)
		}
		if got, e := Gaps(x.n, x.s); len(got) != 0 || e != api.ErrForm {
			t.Errorf("Gaps(%d, %x) = %v, %v", x.n, x.s, got, e)
		}
		if got, e := Pack(x.n, x.s); got != "" || e != api.ErrForm {
			t.Errorf("Pack(%d, %x) = %x, %v", x.n, x.s, got, e)
		}
		if got, e := Text(x.n, x.s); got != "" || e != api.ErrForm {
			t.Errorf("Text(%d, %x) = %q, %v", x.n, x.s, got, e)
		}
		good := bits.Empty(x.n)
		for _, pair := range [][2]string{{x.s, good}, {good, x.s}, {x.s, x.s}} {
			if got, e := Patch(x.n, pair[0], pair[1]); got != "" || e != api.ErrForm {
				t.Errorf("Patch(%d, %x, %x) = %x, %v", x.n, pair[0], pair[1], got, e)
			}
		}
		for _, patch := range []string{"", "\x00\x01", "\x00", "\xff\xff"} {
			if got, e := Apply(x.n, x.s, patch); got != "" || e != api.ErrForm {
				t.Errorf("Apply(%d, %x, %x) = %x, %v", x.n, x.s, patch, got, e)
			}
		}
	}
}

// 25.1: sets of runs; the list stays as it is.
func TestSet(t *testing.T) {
	for n := range api.MaxAll + 1 {
		for _, l := range someLists(n) {
			spans := runsByDocument(l)
			kept := slices.Clone(spans)
			if got, e := Set(n, spans); got != set(t, n, l) || e != api.OK {
				t.Errorf("Set(%d, %v) = %x, %v", n, spans, got, e)
			}
			if !slices.Equal(kept, spans) {
				t.Errorf("the runs are changed: %v", spans)
			}
		}
	}
}

// 25.1: all lists of up to two spans that are near a small set: the runs of a set make it, and no other list does.
func TestSetOfAnySpans(t *testing.T) {
	for n := range 6 {
		right := map[string]string{}
		for _, l := range subsets(n) {
			right[fmt.Sprint(runsByDocument(l))] = set(t, n, l)
		}
		check := func(spans ...api.Span) {
			want, there := right[fmt.Sprint(spans)]
			err := api.OK
			if !there {
				err = api.ErrArg
			}
			if got, e := Set(n, spans); got != want || e != err {
				t.Errorf("Set(%d, %v) = %x, %v, want %x, %v", n, spans, got, e, want, err)
			}
		}
		check()
		for lo := -2; lo <= n+2; lo++ {
			for hi := -2; hi <= n+2; hi++ {
				a := api.Span{Lo: lo, Hi: hi}
				check(a)
				for lo := -2; lo <= n+2; lo++ {
					for hi := -2; hi <= n+2; hi++ {
						check(a, api.Span{Lo: lo, Hi: hi})
					}
				}
			}
		}
	}
}

// 25.1: spans that are the runs of no set, and bounds that may not be.
func TestSetErrors(t *testing.T) {
	for i, x := range []struct {
		n int
		l []api.Span
	}{
		{10, []api.Span{{}}}, {10, []api.Span{{Lo: 3, Hi: 3}}}, {10, []api.Span{{Lo: 3, Hi: 2}}}, {10, []api.Span{{Lo: -1, Hi: 2}}}, {10, []api.Span{{Lo: 9, Hi: 11}}}, {10, []api.Span{{Lo: 10, Hi: 11}}}, {10, []api.Span{{Lo: 10, Hi: 10}}},
		{10, []api.Span{{Lo: 0, Hi: 3}, {Lo: 3, Hi: 4}}}, {10, []api.Span{{Lo: 0, Hi: 3}, {Lo: 2, Hi: 4}}}, {10, []api.Span{{Lo: 5, Hi: 6}, {Lo: 0, Hi: 3}}}, {10, []api.Span{{Lo: 0, Hi: 3}, {Lo: 0, Hi: 3}}}, {10, []api.Span{{Lo: 0, Hi: 3}, {Lo: 5, Hi: 5}}}, {10, []api.Span{{Lo: 0, Hi: 3}, {Lo: 5, Hi: 11}}}, {10, []api.Span{{Lo: 0, Hi: 1}, {Lo: 2, Hi: 3}, {Lo: 1, Hi: 2}}},
		{10, []api.Span{{Lo: 0, Hi: math.MaxInt}}}, {10, []api.Span{{Lo: math.MinInt, Hi: 5}}}, {10, []api.Span{{Lo: math.MinInt, Hi: math.MaxInt}}}, {10, []api.Span{{Lo: math.MaxInt, Hi: math.MinInt}}}, {10, []api.Span{{Lo: 1, Hi: math.MinInt}}}, {10, []api.Span{{Lo: 0, Hi: 10}, {Lo: math.MaxInt, Hi: math.MaxInt}}},
		{0, []api.Span{{}}}, {0, []api.Span{{Lo: 0, Hi: 1}}}, {160, []api.Span{{Lo: 0, Hi: 161}}}, {160, []api.Span{{Lo: 160, Hi: 161}}}, {160, slices.Repeat([]api.Span{{Lo: 0, Hi: 1}}, 1000)},
	} {
		if got, e := Set(x.n, x.l); got != "" || e != api.ErrArg {
			t.Errorf("%d: Set(%d, %v) = %x, %v", i, x.n, x.l, got, e)
		}
	}
	for _, n := range wrongBounds() {
		for _, l := range [][]api.Span{nil, {{Lo: 0, Hi: 1}}, {{Lo: 0, Hi: math.MaxInt}}, {{Lo: 3, Hi: 3}}} {
			if got, e := Set(n, l); got != "" || e != api.ErrArg {
				t.Errorf("Set(%d, %v) = %x, %v", n, l, got, e)
			}
		}
	}
}

// 25.2: packed bytes and texts of sets.
func TestPackAndText(t *testing.T) {
	for n := range api.MaxAll + 1 {
		for _, l := range someLists(n) {
			s := set(t, n, l)
			if got, e := Pack(n, s); got != packedByDocument(l) || e != api.OK {
				t.Errorf("Pack(%d, %x) = %x, %v, want %x", n, s, got, e, packedByDocument(l))
			}
			if got, e := Text(n, s); got != textByDocument(l) || e != api.OK {
				t.Errorf("Text(%d, %x) = %q, %v, want %q", n, s, got, e, textByDocument(l))
			}
		}
	}
	if got, e := Pack(0, ""); got != "" || e != api.OK {
		t.Errorf("Pack of none: %x, %v", got, e)
	}
	if got, e := Text(0, ""); got != "-" || e != api.OK {
		t.Errorf("Text of none: %q, %v", got, e)
	}
	if got, e := Pack(160, bits.Full(160)); got != "\x00\xa0" || e != api.OK {
		t.Errorf("Pack of all: %x, %v", got, e)
	}
	if got, e := Text(160, bits.Full(160)); got != "0-159" || e != api.OK {
		t.Errorf("Text of all: %q, %v", got, e)
	}
}

// words are all texts of up to so many letters.
func words(letters string, most int) []string {
	all := []string{""}
	last := all
	for range most {
		var next []string
		for _, s := range last {
			for i := range len(letters) {
				next = append(next, s+letters[i:i+1])
			}
		}
		all = append(all, next...)
		last = next
	}
	return all
}

// holdAgainst holds a reader of texts against all texts that are right.
func holdAgainst(t *testing.T, name string, read func(int, string) (string, api.Errno), n int, right map[string]string, texts []string) {
	t.Helper()
	for _, x := range texts {
		want, there := right[x]
		err := api.OK
		if !there {
			err = api.ErrForm
		}
		if got, e := read(n, x); got != want || e != err {
			t.Errorf("%s(%d, %q) = %x, %v, want %x, %v", name, n, x, got, e, want, err)
		}
	}
}

// 25.2, 25.4: of all short bytes just those that packing makes are unpacked.
func TestUnpackOfAny(t *testing.T) {
	for n := range 6 {
		right := map[string]string{}
		for _, l := range subsets(n) {
			right[packedByDocument(l)] = set(t, n, l)
		}
		holdAgainst(t, "Unpack", Unpack, n, right, words("\x00\x01\x02\x03\x05\x06\xff", 6))
	}
}

// 25.2: packed bytes of no set below the number.
func TestUnpackErrors(t *testing.T) {
	for _, x := range []struct {
		n int
		t string
	}{
		{10, "\x00"}, {10, "\x00\x00"}, {10, "\x05\x00"}, {10, "\x00\x01\x00\x01"}, {10, "\x00\x0b"}, {10, "\x0a\x01"}, {10, "\x09\x02"}, {10, "\xff\xff\xff\xff"}, {10, "\x00\x03\x02"}, {10, "\x00\x03\x02\x01\x01\x02\x00"}, {10, "\x00\x03\x02\x01\x01\x02\x01\x01"}, {10, "\x00\x03\x02\x01\x01\x02\x01\x00"},
		{0, "\x00"}, {0, "\x00\x00"}, {0, "\x00\x01"}, {160, "\x00\xa1"}, {160, "\xa0\x01"}, {160, "\xff\x01"}, {160, "\x00\xff\x01\x01"}, {160, "\x01\xff"}, {160, strings.Repeat("\x01\x01", 81)}, {160, strings.Repeat("\x01\x01", 1<<19)}, {160, strings.Repeat("\x00", 1<<20)}, {160, strings.Repeat("\x01\x01", 79) + "\x01"},
	} {
		if got, e := Unpack(x.n, x.t); got != "" || e != api.ErrForm {
			t.Errorf("Unpack(%d, %.40x) = %x, %v", x.n, x.t, got, e)
		}
	}
	if got, e := Unpack(160, strings.Repeat("\x01\x01", 80)); got != strings.Repeat("\xaa", 20) || e != api.OK {
		t.Errorf("Unpack of as many runs as there may be: %x, %v", got, e)
	}
}

// 25.2, 25.4: of all short texts just those that writing makes are read.
func TestReadOfAny(t *testing.T) {
	for n := range 6 {
		right := map[string]string{}
		for _, l := range subsets(n) {
			right[textByDocument(l)] = set(t, n, l)
		}
		holdAgainst(t, "Read", Read, n, right, words("0124,-", 6))
		holdAgainst(t, "Read", Read, n, right, words("035,-+ _x.", 4))
	}
}

// 25.2: texts of no set below the number.
func TestReadErrors(t *testing.T) {
	for _, x := range []struct {
		n int
		t string
	}{
		{10, ""}, {10, ","}, {10, "0-2,"}, {10, ",0-2"}, {10, "0-2,,5"}, {10, "00"}, {10, "01"}, {10, "0-02"}, {10, "0,1"}, {10, "0-2,3"}, {10, "0-2,3-4"}, {10, "0-3,2"}, {10, "2,1"}, {10, "5,5"}, {10, "1-1"}, {10, "2-1"}, {10, "9-5"}, {10, "10"}, {10, "9-10"}, {10, "a"}, {10, "0-a"}, {10, "0--1"}, {10, "5--3"}, {10, "-1"}, {10, "--"}, {10, "-,1"}, {10, "1,-"}, {10, "-0"}, {10, "0-"}, {10, "0-1-2"}, {10, "+1"}, {10, "0-+1"}, {10, " 1"}, {10, "1 "}, {10, "0 - 2"}, {10, "0x1"}, {10, "1_0"}, {100, "1_0"}, {10, "1e0"}, {10, "1\n"}, {10, "1\x00"}, {10, "\xff"}, {10, "٣"}, {10, "0–2"},
		{10, "99999999999999999999"}, {10, "1-99999999999999999999"}, {10, "9223372036854775807"}, {10, "1-9223372036854775807"}, {10, "-9223372036854775808"}, {10, "9223372036854775808"}, {10, "18446744073709551617"}, {10, "4294967297"}, {10, strings.Repeat("9", 1000)}, {10, strings.Repeat("0", 1000)}, {10, strings.Repeat(",", 1<<20)}, {10, strings.Repeat("-", 1<<20)}, {10, strings.Repeat("1,", 1<<19)},
		{0, ""}, {0, "0"}, {160, "160"}, {160, "159-160"}, {160, "0-160"}, {160, "0-159,161"},
	} {
		if got, e := Read(x.n, x.t); got != "" || e != api.ErrForm {
			t.Errorf("Read(%d, %.40q) = %x, %v", x.n, x.t, got, e)
		}
	}
}

// 25.2: a bound that may not be comes ahead of bytes and texts that say nothing.
func TestReadersOfNoBound(t *testing.T) {
	for _, n := range wrongBounds() {
		for _, x := range []string{"", "-", "0", "\x00\x01", "\x00", "0-2,", "\xff\xff"} {
			if got, e := Unpack(n, x); got != "" || e != api.ErrArg {
				t.Errorf("Unpack(%d, %q) = %x, %v", n, x, got, e)
			}
			if got, e := Read(n, x); got != "" || e != api.ErrArg {
				t.Errorf("Read(%d, %q) = %x, %v", n, x, got, e)
			}
		}
	}
}

// 25.3: patches from each of some sets to each other one, and what they make.
func TestPatchAndApply(t *testing.T) {
	for _, n := range []int{0, 1, 2, 5, 8, 10, 63, 64, 96, 160} {
		for _, x := range someLists(n) {
			for _, y := range someLists(n) {
				from, to := set(t, n, x), set(t, n, y)
				want := packedByDocument(unlikeByDocument(n, x, y))
				patch, e := Patch(n, from, to)
				if patch != want || e != api.OK {
					t.Errorf("Patch(%d, %x, %x) = %x, %v, want %x", n, from, to, patch, e, want)
				}
				if got, e := Apply(n, from, want); got != to || e != api.OK {
					t.Errorf("Apply(%d, %x, %x) = %x, %v, want %x", n, from, want, got, e, to)
				}
			}
		}
	}
}

// 25.3: what is no patch.
func TestApplyErrors(t *testing.T) {
	for _, patch := range []string{"\x00", "\x00\x00", "\x00\x0b", "\x0a\x01", "\x00\x01\x00\x01", "\x00\x03\x02", "0-2", "\xff\xff", strings.Repeat("\x01\x01", 1000)} {
		for _, s := range []string{bits.Empty(10), bits.Full(10), "\x09\x02"} {
			if got, e := Apply(10, s, patch); got != "" || e != api.ErrForm {
				t.Errorf("Apply(10, %x, %x) = %x, %v", s, patch, got, e)
			}
		}
	}
	if got, e := Apply(10, "\x09\x02", ""); got != "\x09\x02" || e != api.OK {
		t.Errorf("Apply of nothing: %x, %v", got, e)
	}
}

// 25.4: what is packed, and what is written, is read as it was; a patch goes there and back.
func TestWhatIsWrittenIsRead(t *testing.T) {
	for n := range api.MaxAll + 1 {
		lists := someLists(n)
		for i, l := range lists {
			s := set(t, n, l)
			packed, _ := Pack(n, s)
			if got, e := Unpack(n, packed); got != s || e != api.OK {
				t.Errorf("Unpack(%d, %x) = %x, %v, want %x", n, packed, got, e, s)
			}
			text, _ := Text(n, s)
			if got, e := Read(n, text); got != s || e != api.OK {
				t.Errorf("Read(%d, %q) = %x, %v, want %x", n, text, got, e, s)
			}
			to := set(t, n, lists[(i+1)%len(lists)])
			patch, _ := Patch(n, s, to)
			there, _ := Apply(n, s, patch)
			back, _ := Apply(n, there, patch)
			if there != to || back != s {
				t.Errorf("the patch %x from %x to %x: %x, %x", patch, s, to, there, back)
			}
		}
	}
}

// 25.4: runs and gaps lie in turn, and are all there is below n.
func TestRunsAndGapsInTurn(t *testing.T) {
	for n := range api.MaxAll + 1 {
		for _, l := range someLists(n) {
			s := set(t, n, l)
			spans, _ := Of(n, s)
			gaps, _ := Gaps(n, s)
			end := 0
			for in := bits.Has(s, 0); len(spans)+len(gaps) > 0; in = !in {
				next := &gaps
				if in {
					next = &spans
				}
				if len(*next) == 0 || (*next)[0].Lo != end || (*next)[0].Hi <= end {
					t.Fatalf("below %d, %x: at %d comes %v", n, s, end, *next)
				}
				end = (*next)[0].Hi
				*next = (*next)[1:]
			}
			if end != n {
				t.Errorf("below %d, %x: they end at %d", n, s, end)
			}
		}
	}
}

// R3: no two answers are one list.
func TestAnswersStandAlone(t *testing.T) {
	s := set(t, 10, []int{0, 1, 5})
	for name, f := range map[string]func(int, string) ([]api.Span, api.Errno){"Of": Of, "Gaps": Gaps} {
		a, _ := f(10, s)
		kept := slices.Clone(a)
		clear(a)
		if b, _ := f(10, s); !slices.Equal(b, kept) {
			t.Errorf("%s: two answers share memory: %v", name, b)
		}
	}
}
