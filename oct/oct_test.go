package oct

import (
	"strings"
	"testing"

	"mosaic/api"
)

const (
	most  = int(^uint(0) >> 1)
	least = -most - 1
)

// greatest is the greatest number of a size.
func greatest(size int) int {
	n := 0
	for range size {
		n = n*256 + 255
	}
	return n
}

// numbers are some of every size, its edges among them.
func numbers(size int) []int {
	g := greatest(size)
	return []int{0, 1, 2, 127, 128, 254, 255, g / 3, g / 2, g/2 + 1, g - 1, g}
}

// 2.1: numbers stand with the highest byte first.
func TestPutExamples(t *testing.T) {
	for _, x := range []struct {
		n, size int
		want    string
	}{
		{258, 2, "\x01\x02"},
		{0, 1, "\x00"},
		{0, 7, "\x00\x00\x00\x00\x00\x00\x00"},
		{255, 1, "\xff"},
		{256, 2, "\x01\x00"},
		{256, 3, "\x00\x01\x00"},
		{0x01020304050607, 7, "\x01\x02\x03\x04\x05\x06\x07"},
		{1<<56 - 1, 7, "\xff\xff\xff\xff\xff\xff\xff"},
	} {
		if got, e := Put(x.n, x.size); e != api.OK || got != x.want {
			t.Errorf("Put(%d, %d) = %x, %v, want %x", x.n, x.size, got, e, x.want)
		}
	}
}

// 2.1: which sizes and numbers may not be; the size is asked first.
func TestPutErrors(t *testing.T) {
	for _, size := range []int{least, -8, -1, 0, 8, 9, 64, most} {
		for _, n := range []int{0, 1, -1, least, most} {
			if got, e := Put(n, size); e != api.ErrArg || got != "" {
				t.Errorf("Put(%d, %d) = %x, %v", n, size, got, e)
			}
		}
	}
	for size := 1; size <= 7; size++ {
		for _, n := range []int{least, -256, -1, greatest(size) + 1, most} {
			if got, e := Put(n, size); e != api.ErrOver || got != "" {
				t.Errorf("Put(%d, %d) = %x, %v", n, size, got, e)
			}
		}
		if got, e := Put(greatest(size), size); e != api.OK || got != strings.Repeat("\xff", size) {
			t.Errorf("Put(%d, %d) = %x, %v", greatest(size), size, got, e)
		}
	}
}

// 2.1: the number that bytes are; none of more than seven.
func TestGet(t *testing.T) {
	for s, want := range map[string]int{
		"":                                 0,
		"\x00":                             0,
		"\x01":                             1,
		"\xff":                             255,
		"\x01\x00":                         256,
		"\x00\x00\x05":                     5,
		"\x01\x02\x03\x04\x05\x06\x07":     0x01020304050607,
		"\xff\xff\xff\xff\xff\xff\xff":     1<<56 - 1,
		"\x00\x00\x00\x00\x00\x00\x00\x01": 0,
		"12345678":                         0,
		strings.Repeat("\x01", 100000):     0,
	} {
		if got := Get(s); got != want {
			t.Errorf("Get of %d bytes = %d, want %d", len(s), got, want)
		}
	}
	for size := 1; size <= 7; size++ {
		for _, n := range numbers(size) {
			if s, e := Put(n, size); e != api.OK || len(s) != size || Get(s) != n {
				t.Errorf("Put(%d, %d) = %x, %v, which is %d", n, size, s, e, Get(s))
			}
		}
	}
}

// 2.2: one thing is written behind the other.
func TestWriter(t *testing.T) {
	w := To()
	if s, e := w.Bytes(); s != "" || e != api.OK {
		t.Errorf("at first: %x, %v", s, e)
	}
	want := ""
	for _, step := range []struct {
		do   func()
		adds string
	}{
		{func() { w.Text("ab") }, "\x00\x02ab"},
		{func() { w.Num(258, 2) }, "\x01\x02"},
		{func() { w.Raw("xyz") }, "xyz"},
		{func() { w.Raw("") }, ""},
		{func() { w.Text("") }, "\x00\x00"},
		{func() { w.Num(7, 3) }, "\x00\x00\x07"},
		{func() { w.Text(strings.Repeat("q", 300)) }, "\x01\x2c" + strings.Repeat("q", 300)},
	} {
		step.do()
		want += step.adds
		for range 2 {
			if s, e := w.Bytes(); s != want || e != api.OK {
				t.Fatalf("%x, %v, want %x", s, e, want)
			}
		}
	}
}

// wrongWrites are what writes wrongly behind "ahead", and the error of each.
func wrongWrites() map[string]struct {
	do   func(*Writer)
	want api.Errno
} {
	type wrong = struct {
		do   func(*Writer)
		want api.Errno
	}
	return map[string]wrong{
		"size 0":        {func(w *Writer) { w.Num(1, 0) }, api.ErrArg},
		"size 8":        {func(w *Writer) { w.Num(1, 8) }, api.ErrArg},
		"size and over": {func(w *Writer) { w.Num(-1, -1) }, api.ErrArg},
		"over":          {func(w *Writer) { w.Num(256, 1) }, api.ErrOver},
		"below":         {func(w *Writer) { w.Num(-1, 7) }, api.ErrOver},
		"text":          {func(w *Writer) { w.Text(strings.Repeat("a", 65536)) }, api.ErrLong},
		"text, all":     {func(w *Writer) { w.Text(strings.Repeat("a", 65535)) }, api.ErrLong},
		"raw":           {func(w *Writer) { w.Raw(strings.Repeat("a", api.MaxData+1)) }, api.ErrLong},
	}
}

// 2.2: an error is noted, the first one; nothing is written any more.
func TestWriterNotesTheFirstError(t *testing.T) {
	for name, first := range wrongWrites() {
		for then, second := range wrongWrites() {
			w := To()
			w.Raw("ahead")
			first.do(w)
			w.Num(1, 1)
			w.Text("a")
			w.Raw("b")
			second.do(w)
			if s, e := w.Bytes(); s != "" || e != first.want {
				t.Errorf("%s, then %s: %x, %v, want %v", name, then, s, e, first.want)
			}
		}
	}
}

// 2.2: all together is at most api.MaxData bytes, by whatever it is written.
func TestWriterBound(t *testing.T) {
	for _, x := range []struct {
		name string
		long int
		do   func(*Writer)
	}{
		{"Num", 3, func(w *Writer) { w.Num(5, 3) }},
		{"Text", 4, func(w *Writer) { w.Text("ab") }},
		{"no Text", 2, func(w *Writer) { w.Text("") }},
		{"Raw", 1, func(w *Writer) { w.Raw("a") }},
		{"no Raw", 0, func(w *Writer) { w.Raw("") }},
		{"long Text", api.MaxData, func(w *Writer) { w.Text(strings.Repeat("t", api.MaxData-2)) }},
		{"long Raw", api.MaxData, func(w *Writer) { w.Raw(strings.Repeat("r", api.MaxData)) }},
	} {
		w := To()
		w.Raw(strings.Repeat("z", api.MaxData-x.long))
		x.do(w)
		if s, e := w.Bytes(); len(s) != api.MaxData || e != api.OK {
			t.Errorf("%s up to the bound: %d bytes, %v", x.name, len(s), e)
		}
		w.Raw("")
		if _, e := w.Bytes(); e != api.OK {
			t.Errorf("%s, and nothing: %v", x.name, e)
		}
		w.Raw("a")
		if s, e := w.Bytes(); s != "" || e != api.ErrLong {
			t.Errorf("%s, and a byte: %d bytes, %v", x.name, len(s), e)
		}
		if x.long == 0 {
			continue
		}
		w = To()
		w.Raw(strings.Repeat("z", api.MaxData-x.long+1))
		x.do(w)
		if s, e := w.Bytes(); s != "" || e != api.ErrLong {
			t.Errorf("%s one above: %d bytes, %v", x.name, len(s), e)
		}
	}
}

// 2.2 and 2.3: a nil one.
func TestNil(t *testing.T) {
	var w *Writer
	w.Num(1, 1)
	w.Num(1, 9)
	w.Text("a")
	w.Text(strings.Repeat("a", 70000))
	w.Raw("a")
	if s, e := w.Bytes(); s != "" || e != api.ErrArg {
		t.Errorf("a writer: %x, %v", s, e)
	}
	var r *Reader
	if r.Num(1) != 0 || r.Num(0) != 0 || r.Text() != "" || r.Raw(0) != "" || r.Raw(1) != "" || r.Raw(-1) != "" || r.Rest() != "" || r.Left() != 0 {
		t.Errorf("a reader reads")
	}
	if r.Err() != api.ErrArg || r.End() != api.ErrArg {
		t.Errorf("a reader: %v, %v", r.Err(), r.End())
	}
}

// 2.3: what is read stands behind the other; bytes that are left are an error at the end alone, and are not noted.
func TestReader(t *testing.T) {
	r := From("\x01\x02\x00\x02abxyz\x00\x00rest")
	look := func(left int) {
		t.Helper()
		end := api.ErrForm
		if left == 0 {
			end = api.OK
		}
		if r.Left() != left || r.End() != end || r.Err() != api.OK {
			t.Errorf("Left %d, End %v, Err %v; want %d", r.Left(), r.End(), r.Err(), left)
		}
	}
	look(15)
	if n := r.Num(2); n != 258 {
		t.Errorf("Num = %d", n)
	}
	look(13)
	if s := r.Text(); s != "ab" {
		t.Errorf("Text = %q", s)
	}
	look(9)
	if s := r.Raw(3); s != "xyz" {
		t.Errorf("Raw = %q", s)
	}
	if s := r.Raw(0); s != "" {
		t.Errorf("Raw = %q", s)
	}
	look(6)
	if s := r.Text(); s != "" {
		t.Errorf("Text = %q", s)
	}
	look(4)
	if s := r.Rest(); s != "rest" {
		t.Errorf("Rest = %q", s)
	}
	look(0)
	if r.Rest() != "" || r.Raw(0) != "" {
		t.Errorf("behind the end there is something")
	}
	look(0)
}

// 2.3: of no bytes there is nothing, and no error till some are asked for.
func TestReaderOfNothing(t *testing.T) {
	r := From("")
	if r.Left() != 0 || r.Rest() != "" || r.Raw(0) != "" || r.Err() != api.OK || r.End() != api.OK {
		t.Errorf("Left %d, Err %v, End %v", r.Left(), r.Err(), r.End())
	}
}

// 2.3: a single byte that is left is an error at the end.
func TestEndWithOneByteLeft(t *testing.T) {
	r := From("ab")
	if r.Raw(1) != "a" || r.End() != api.ErrForm || r.Err() != api.OK {
		t.Errorf("End %v, Err %v", r.End(), r.Err())
	}
	if r.Raw(1) != "b" || r.End() != api.OK {
		t.Errorf("End %v", r.End())
	}
}

// wrongReads are what reads wrongly where "ahead" is left, and the error of each.
func wrongReads() map[string]struct {
	do   func(*Reader) bool
	want api.Errno
} {
	type wrong = struct {
		do   func(*Reader) bool
		want api.Errno
	}
	return map[string]wrong{
		"Num(0)":       {func(r *Reader) bool { return r.Num(0) == 0 }, api.ErrArg},
		"Num(-1)":      {func(r *Reader) bool { return r.Num(-1) == 0 }, api.ErrArg},
		"Num(8)":       {func(r *Reader) bool { return r.Num(8) == 0 }, api.ErrArg},
		"Num(least)":   {func(r *Reader) bool { return r.Num(least) == 0 }, api.ErrArg},
		"Num(most)":    {func(r *Reader) bool { return r.Num(most) == 0 }, api.ErrArg},
		"Num(6)":       {func(r *Reader) bool { return r.Num(6) == 0 }, api.ErrShort},
		"Text":         {func(r *Reader) bool { return r.Text() == "" }, api.ErrShort},
		"Raw(-1)":      {func(r *Reader) bool { return r.Raw(-1) == "" }, api.ErrArg},
		"Raw(least)":   {func(r *Reader) bool { return r.Raw(least) == "" }, api.ErrArg},
		"Raw(6)":       {func(r *Reader) bool { return r.Raw(6) == "" }, api.ErrShort},
		"Raw(most)":    {func(r *Reader) bool { return r.Raw(most) == "" }, api.ErrShort},
		"Raw(1 << 40)": {func(r *Reader) bool { return r.Raw(1<<40) == "" }, api.ErrShort},
	}
}

// 2.3: an error is noted, the first one; nothing is read any more.
func TestReaderNotesTheFirstError(t *testing.T) {
	for name, first := range wrongReads() {
		for then, second := range wrongReads() {
			r := From("\x07ahead")
			if r.Num(1) != 7 || !first.do(r) || r.Err() != first.want || r.End() != first.want {
				t.Errorf("%s: Err %v, End %v, want %v", name, r.Err(), r.End(), first.want)
			}
			if r.Left() != 0 || r.Num(1) != 0 || r.Text() != "" || r.Raw(1) != "" || r.Raw(0) != "" || r.Rest() != "" || r.Left() != 0 {
				t.Errorf("%s: something is read behind it", name)
			}
			if !second.do(r) || r.Err() != first.want || r.End() != first.want {
				t.Errorf("%s, then %s: Err %v, End %v, want %v", name, then, r.Err(), r.End(), first.want)
			}
		}
	}
}

// 2.3: fewer bytes than a number, or a text, has.
func TestReaderShort(t *testing.T) {
	for size := 1; size <= 7; size++ {
		for left := range size {
			r := From(strings.Repeat("a", left))
			if r.Num(size) != 0 || r.Err() != api.ErrShort {
				t.Errorf("Num(%d) of %d bytes: %v", size, left, r.Err())
			}
		}
		if r := From(strings.Repeat("\x01", size)); r.Num(size) == 0 || r.End() != api.OK {
			t.Errorf("Num(%d) of as many bytes: %v", size, r.End())
		}
	}
	for s, want := range map[string]api.Errno{
		"":               api.ErrShort,
		"\x00":           api.ErrShort,
		"\x00\x01":       api.ErrShort,
		"\x00\x05ab":     api.ErrShort,
		"\x00\x03ab":     api.ErrShort,
		"\x01\x00a":      api.ErrShort,
		"\xff\xffabc":    api.ErrShort,
		"\x00\x00":       api.OK,
		"\x00\x02ab":     api.OK,
		"\x00\x01ab":     api.OK,
		"\x00\x02ab\x00": api.OK,
	} {
		r := From(s)
		got := r.Text()
		if r.Err() != want {
			t.Errorf("Text of %x: %q, %v", s, got, r.Err())
		}
		if want == api.OK && got != s[2:2+int(s[1])] || want != api.OK && got != "" {
			t.Errorf("Text of %x: %q", s, got)
		}
	}
	long := strings.Repeat("l", 65535)
	if r := From("\xff\xff" + long); r.Text() != long || r.End() != api.OK {
		t.Errorf("the longest text: %v", r.End())
	}
}

// 2.3: two readers of the same bytes have nothing in common.
func TestReadersStandApart(t *testing.T) {
	a, b := From("abc"), From("abc")
	a.Raw(9)
	if b.Raw(3) != "abc" || b.End() != api.OK || a.Err() != api.ErrShort {
		t.Errorf("a: %v, b: %v", a.Err(), b.End())
	}
}

// 2.4: what is written is read, whatever stands behind it.
func TestWhatIsWrittenIsRead(t *testing.T) {
	texts := []string{"", "a", "\x00", "\x00\x02", "\xff\xff", strings.Repeat("\x01\x00", 500)}
	w := To()
	for size := 1; size <= 7; size++ {
		for _, n := range numbers(size) {
			w.Num(n, size)
		}
		for _, s := range texts {
			w.Text(s)
			w.Raw(s)
		}
	}
	all, e := w.Bytes()
	if e != api.OK {
		t.Fatalf("Bytes: %v", e)
	}
	for _, behind := range []string{"", "\x00", "\xff\xff\xff", all, strings.Repeat("b", 100000)} {
		r := From(all + behind)
		for size := 1; size <= 7; size++ {
			for _, n := range numbers(size) {
				if got := r.Num(size); got != n {
					t.Errorf("Num(%d) = %d, want %d", size, got, n)
				}
			}
			for _, s := range texts {
				if got := r.Text(); got != s {
					t.Errorf("Text = %q, want %q", got, s)
				}
				if got := r.Raw(len(s)); got != s {
					t.Errorf("Raw = %q, want %q", got, s)
				}
			}
		}
		if r.Left() != len(behind) || r.Rest() != behind || r.End() != api.OK {
			t.Errorf("behind it: %v", r.End())
		}
	}
}

// 2.4: numbers of one size stand as their bytes do.
func TestOrderOfNumbers(t *testing.T) {
	for size := 1; size <= 7; size++ {
		for _, a := range numbers(size) {
			for _, b := range numbers(size) {
				x, _ := Put(a, size)
				y, _ := Put(b, size)
				if (a < b) != (x < y) || (a == b) != (x == y) {
					t.Errorf("size %d: %d and %d stand as %x and %x", size, a, b, x, y)
				}
			}
		}
	}
}
