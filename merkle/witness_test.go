package merkle

import (
	"slices"
	"strings"
	"testing"

	"mosaic/api"
)

// firstByte is a sum of which it is easy to find two unlike texts; no bytes have none.
func firstByte(s string) string {
	return s[:min(1, len(s))]
}

// witnessByDocument goes through all pairs.
func witnessByDocument(l []string, sum func(string) string) (string, string, bool) {
	for i, a := range l {
		for _, b := range l[i+1:] {
			if a != b && sum(a) != "" && sum(a) == sum(b) {
				return a, b, true
			}
		}
	}
	return "", "", false
}

// 3.4: which two are told: the first one that has another behind it, and the first one behind that.
func TestWhichWitness(t *testing.T) {
	for _, x := range []struct {
		l    string
		a, b string
	}{
		{"", "", ""},
		{"a1", "", ""},
		{"a1 a1", "", ""},
		{"a1 b1 c1", "", ""},
		{"a1 a2", "a1", "a2"},
		{"a1 a1 a2", "a1", "a2"},
		{"a1 a2 a1", "a1", "a2"},
		{"a1 a2 a3", "a1", "a2"},
		{"b1 a1 a2", "a1", "a2"},
		{"b1 a1 a2 b2", "b1", "b2"},
		{"b1 a1 b1 a2 b1 b3 b2", "b1", "b3"},
		{"c1 b1 a1 a2 b2", "b1", "b2"},
		{"c1 b1 a1 a2 b2 c1", "b1", "b2"},
		{"c1 b1 a1 a2 b2 c3 c4", "c1", "c3"},
	} {
		a, b, is := witness(strings.Fields(x.l), firstByte)
		if a != x.a || b != x.b || is != (x.a != "") {
			t.Errorf("%s: %s, %s, %v", x.l, a, b, is)
		}
	}
}

// 3.4: likewise of many lists, against all pairs.
func TestWitnessAgainstPairs(t *testing.T) {
	x := uint32(1)
	for range 3000 {
		var l []string
		x = x*1664525 + 1013904223
		for range x >> 29 {
			x = x*1664525 + 1013904223
			l = append(l, []string{"", "a1", "a2", "a3", "b1", "b2", "c1", "c2"}[x>>29])
		}
		a, b, is := witness(l, firstByte)
		if c, d, want := witnessByDocument(l, firstByte); a != c || b != d || is != want {
			t.Errorf("%q: %s, %s, %v, want %s, %s, %v", l, a, b, is, c, d, want)
		}
	}
}

// 3.4: of SHA-256 there are none here; like texts are none, and texts that are too long have no sum in common.
func TestNoWitness(t *testing.T) {
	long := strings.Repeat("l", api.MaxData+1)
	texts := Texts(list(100))
	for name, l := range map[string][]string{
		"nil":       nil,
		"none":      {},
		"one":       {"a"},
		"like ones": {"a", "a", "a"},
		"texts":     texts,
		"twice":     slices.Concat(texts, texts),
		"too long":  {long, long + "l", "", long, long + "m", ""},
		"longest":   {long[1:], long[2:], long[1:]},
	} {
		if a, b, is := Witness(l); is || a != "" || b != "" {
			t.Errorf("%s: %d and %d bytes, %v", name, len(a), len(b), is)
		}
	}
}

// R1: many texts are gone through once.
func TestWitnessOfMany(t *testing.T) {
	if _, _, is := Witness(slices.Repeat(list(256), 300)); is {
		t.Errorf("there is a witness")
	}
}
