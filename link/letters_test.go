package link

import (
	"encoding/base32"
	"fmt"
	"math/rand"
	"strings"
	"testing"

	"mosaic/api"
)

// inBase32 is the library's way.
func inBase32() *base32.Encoding {
	return base32.NewEncoding("abcdefghijklmnopqrstuvwxyz234567").WithPadding(base32.NoPadding)
}

// someBytes are texts of bytes: all of one, and many of each length.
func someBytes() []string {
	l := []string{"", "hi", "foobar", strings.Repeat("\x00", 32), strings.Repeat("\xff", 32), strings.Repeat("x", 70000)}
	all := make([]byte, 256)
	for c := range all {
		all[c] = byte(c)
		l = append(l, string(all[c:c+1]), string(all[:c+1]))
	}
	chance := rand.New(rand.NewSource(29))
	for long := range 70 {
		for range 5 {
			b := make([]byte, long)
			chance.Read(b)
			l = append(l, string(b))
		}
	}
	return l
}

// 29.1, 29.3: bytes in base 32, and back.
func TestBase32(t *testing.T) {
	for _, s := range someBytes() {
		want := inBase32().EncodeToString([]byte(s))
		got := Base32(s)
		if got != want {
			t.Errorf("Base32(%x) = %q, want %q", s, got, want)
		}
		if b, e := Unbase32(want); b != s || e != api.OK {
			t.Errorf("Unbase32(%q) = %x, %v, want %x", want, b, e, s)
		}
	}
	if Base32("hi") != "nbuq" || Base32("\x00") != "aa" || Base32("\xff") != "74" || Base32("") != "" {
		t.Errorf("the example: %q, %q, %q", Base32("hi"), Base32("\x00"), Base32("\xff"))
	}
}

// unbase32ByDocument writes bits out, and takes them by eight; what is left is fewer than a letter's, and 0.
func unbase32ByDocument(t string) (string, bool) {
	bits := ""
	for _, c := range []byte(t) {
		i := strings.IndexByte("abcdefghijklmnopqrstuvwxyz234567", c)
		if i < 0 {
			return "", false
		}
		bits += fmt.Sprintf("%05b", i)
	}
	out := ""
	for len(bits) >= 8 {
		c := 0
		fmt.Sscanf(bits[:8], "%b", &c)
		out += string([]byte{byte(c)})
		bits = bits[8:]
	}
	return out, len(bits) < 5 && strings.Trim(bits, "0") == ""
}

// unbaseAgainst holds Unbase32 against the document; it tells whether a text is bytes in base 32.
func unbaseAgainst(t *testing.T, s string) bool {
	t.Helper()
	want, is := unbase32ByDocument(s)
	got, e := Unbase32(s)
	if is && (e != api.OK || got != want || Base32(got) != s) || !is && (e != api.ErrForm || got != "") {
		t.Errorf("Unbase32(%q) = %x, %v, want %x, %v", s, got, e, want, is)
	}
	return is
}

// 29.1, 29.3: all texts of at most three letters, and longer ones with each other last letter: just those that are written are read.
func TestUnbase32(t *testing.T) {
	const letters = "abcdefghijklmnopqrstuvwxyz234567"
	counts := [4]int{}
	for a := range 32 {
		for b := range 32 {
			for c := range 32 {
				for long := range 4 {
					if s := string([]byte{letters[a], letters[b], letters[c]})[:long]; unbaseAgainst(t, s) {
						counts[long]++
					}
				}
			}
		}
	}
	if counts != [4]int{32 * 32 * 32, 0, 256 * 32, 0} {
		t.Errorf("so many are read: %v", counts)
	}
	for long := range 20 {
		read := 0
		for c := range 256 {
			if unbaseAgainst(t, strings.Repeat("z", long)+string([]byte{byte(c)})) {
				read++
			}
		}
		// Of the last letter's bits 0 to 4 are none of a byte's; or there is no such length.
		if want := map[int]int{2: 8, 4: 2, 5: 16, 7: 4, 0: 32}[(long+1)%8]; read != want {
			t.Errorf("of length %d %d are read, want %d", long+1, read, want)
		}
	}
}

// 29.1: what stands in no text in base 32, at each place.
func TestUnbase32OfOtherBytes(t *testing.T) {
	right := Base32("foobar, foobar")
	for i := range right {
		for c := range 256 {
			if !strings.Contains("abcdefghijklmnopqrstuvwxyz234567", string([]byte{byte(c)})) {
				if b, e := Unbase32(right[:i] + string([]byte{byte(c)}) + right[i+1:]); b != "" || e != api.ErrForm {
					t.Errorf("with byte %d at %d: %x, %v", c, i, b, e)
				}
			}
		}
	}
	for _, s := range []string{"m", "mz", "mzx", "MY", "mY", "m1", "m0", "m8", "m9", "my=", "my======", " my", "my\n", "m y", "\xff", "é", strings.Repeat("a", 70001), strings.Repeat("A", 70000)} {
		if b, e := Unbase32(s); b != "" || e != api.ErrForm {
			t.Errorf("Unbase32(%q) = %x, %v", s, b, e)
		}
	}
}

const plain = "abcdefghijklmnopqrstuvwxyzABCDEFGHIJKLMNOPQRSTUVWXYZ0123456789-._~"

// escapedByDocument escapes byte by byte.
func escapedByDocument(s string) string {
	var out strings.Builder
	for i := range len(s) {
		if strings.IndexByte(plain, s[i]) >= 0 {
			out.WriteByte(s[i])
		} else {
			fmt.Fprintf(&out, "%%%02X", s[i])
		}
	}
	return out.String()
}

// 29.1, 29.3: bytes escaped, and back.
func TestEscape(t *testing.T) {
	for _, s := range append(someBytes(), "a b/c", "-._~", "%41", "%%%", "é", "a+b&c=d?e,f#g") {
		want := escapedByDocument(s)
		if got := Escape(s); got != want {
			t.Errorf("Escape(%q) = %q, want %q", s, got, want)
		}
		if b, e := Unescape(want); b != s || e != api.OK {
			t.Errorf("Unescape(%q) = %q, %v, want %q", want, b, e, s)
		}
	}
	if Escape("a b/c") != "a%20b%2Fc" || Escape("\x00\xff%") != "%00%FF%25" || Escape("") != "" {
		t.Errorf("the example: %q, %q", Escape("a b/c"), Escape("\x00\xff%"))
	}
}

// 29.1, 29.3: a % and any two bytes: just those of bytes that must be escaped, in their one way.
func TestUnescape(t *testing.T) {
	right := map[string]string{}
	for c := range 256 {
		s := string([]byte{byte(c)})
		right[escapedByDocument(s)] = s
	}
	read := 0
	for a := range 256 {
		for b := range 256 {
			s := "%" + string([]byte{byte(a), byte(b)})
			want, is := right[s]
			got, e := Unescape("x" + s + "y")
			if is && (got != "x"+want+"y" || e != api.OK) || !is && (got != "" || e != api.ErrForm) {
				t.Errorf("Unescape of %q: %q, %v", s, got, e)
			}
			if is {
				read++
			}
		}
		s := string([]byte{byte(a)})
		if b, e := Unescape(s); (e == api.OK) != (strings.Contains(plain, s)) || (e == api.OK) != (b == s) || e != api.OK && (e != api.ErrForm || b != "") {
			t.Errorf("Unescape(%q) = %q, %v", s, b, e)
		}
	}
	if read != 256-len(plain) {
		t.Errorf("%d are read", read)
	}
	for _, s := range []string{"%", "%2", "a%", "a%2", "%%", "%%20", "%2%", "%2f", "%fF", "%41", "%7E", "%2D", " ", "a b", "a+b ", "/", "%20%", "%20%2", "% 20", "%+2", "%-1", "%0x", strings.Repeat("%20", 30000) + "%"} {
		if b, e := Unescape(s); b != "" || e != api.ErrForm {
			t.Errorf("Unescape(%q) = %q, %v", s, b, e)
		}
	}
}
