package script

import (
	"math"
	"reflect"
	"slices"
	"strings"
	"testing"

	"mosaic/api"
)

// 23.1: what is shown of a setup and a deed of each kind, and that it is read.
func TestShowAndRead(t *testing.T) {
	needShow(t, setup(), each(), head+eachLines)
	needRead(t, head+eachLines, setup(), each())
	needShow(t, setup(), nil, head)
	needShow(t, setup(), []api.Deed{}, head)
	needRead(t, head, setup(), nil)
	if MaxLines != 300 {
		t.Errorf("MaxLines is %d", MaxLines)
	}
}

// 23.1: the setup of nothing but zeros, and one node.
func TestZeros(t *testing.T) {
	text := "file -\ncut 0 0 0 0 0 0\nnode owns 0 0\nconfig 0 0 0 0 0\n"
	s := api.Setup{Roles: []int{0}, Places: []api.Place{{}}}
	needShow(t, s, nil, text)
	needRead(t, text, s, nil)
	l := []api.Deed{{Kind: api.DeedCome}, {Kind: api.DeedTick}, {Kind: api.DeedGreet}, {Kind: api.DeedLie}}
	needShow(t, s, l, text+"come 0\ntick 0 0\ngreet 0 0\nlie 0 0 -\n")
	needRead(t, text+"come 0\ntick 0 0\ngreet 0 0\nlie 0 0 -\n", s, l)
}

// 23.1: each thing stands in its own place.
func TestPlaces(t *testing.T) {
	s := api.Setup{
		File: "\x00\x9a", Size: 1, Seed: 2, Code: api.Code{Eps: api.Ratio{N: 3, D: 4}, Q: 5, F: 6},
		Roles:  []int{3, 2, 1, 0, 0},
		Places: []api.Place{{X: 7, Y: 8}, {X: -9, Y: 10}, {X: 11, Y: -12}, {X: -13, Y: -14}, {}},
		Config: api.Config{Room: 15, Timeout: 16, Slots: 17, Quota: 18, Out: 19},
	}
	text := "file 009a\ncut 1 2 3 4 5 6\nnode lies 7 8\nnode seeks -9 10\nnode fetches 11 -12\nnode owns -13 -14\nnode owns 0 0\nconfig 15 16 17 18 19\n"
	needShow(t, s, nil, text)
	needRead(t, text, s, nil)
}

// fields are all numbers that a setup and deeds have, but for roles and kinds.
func fields(s *api.Setup, l []api.Deed) []*int {
	c := &s.Config
	at := []*int{&s.Size, &s.Seed, &s.Code.Eps.N, &s.Code.Eps.D, &s.Code.Q, &s.Code.F, &s.Places[1].X, &s.Places[2].Y, &c.Room, &c.Timeout, &c.Slots, &c.Quota, &c.Out}
	return append(at, &l[0].I, &l[1].I, &l[2].I, &l[3].Node, &l[3].I, &l[4].Node, &l[4].To, &l[5].Node, &l[5].To)
}

// 23.1: a number has at most 18 digits.
func TestDigits(t *testing.T) {
	const most = 999_999_999_999_999_999
	for i := range fields(&api.Setup{Places: make([]api.Place, 3)}, each()) {
		for _, n := range []int{most, -most, most - 1, 1<<40 + 1, -10} {
			s, l := setup(), each()
			*fields(&s, l)[i] = n
			text, e := Show(s, l)
			if e != api.OK {
				t.Errorf("%d at %d: %v", n, i, e)
			}
			needRead(t, text, s, l)
		}
		for _, n := range []int{most + 1, -most - 1, math.MaxInt, math.MinInt} {
			s, l := setup(), each()
			*fields(&s, l)[i] = n
			needNone(t, "too many digits", s, l)
		}
	}
	needWrong(t, head+"come 1000000000000000000\n", headLines+1, api.ErrForm)
	needWrong(t, head+"come -1000000000000000000\n", headLines+1, api.ErrForm)
	needWrong(t, head+"come 9223372036854775808\n", headLines+1, api.ErrForm)
	needWrong(t, head+"come "+strings.Repeat("9", 1000)+"\n", headLines+1, api.ErrForm)
	needWrong(t, head+"come 000000000000000001\n", headLines+1, api.ErrForm)
}

// 23.1: what no line says of a deed is zero.
func TestDeedsThatNoLineSays(t *testing.T) {
	said := map[int]string{1: "I", 2: "I", 3: "I", 4: "Node I", 5: "Node To", 6: "Node To Text", 7: ""}
	for kind, names := range said {
		for _, name := range []string{"I", "Node", "To", "Text"} {
			for _, n := range []int{1, -1} {
				d := api.Deed{Kind: kind}
				switch v := reflect.ValueOf(&d).Elem().FieldByName(name); name {
				case "Text":
					v.SetString("\x00")
				default:
					v.SetInt(int64(n))
				}
				l := []api.Deed{{Kind: api.DeedCome}, d}
				if !slices.Contains(strings.Fields(names), name) {
					needNone(t, "a field that no line says", setup(), l)
					continue
				}
				text, e := Show(setup(), l)
				if e != api.OK {
					t.Errorf("%+v: %v", d, e)
				}
				needRead(t, text, setup(), l)
			}
		}
	}
	for _, kind := range []int{0, -1, 8, 9, 255, 1<<32 + 1, math.MaxInt, math.MinInt} {
		needNone(t, "no kind", setup(), []api.Deed{{Kind: kind}})
		needNone(t, "no kind", setup(), []api.Deed{{Kind: api.DeedCalm}, {Kind: kind, I: 1}})
	}
}

// 23.1: setups that no lines say.
func TestSetupsThatNoLinesSay(t *testing.T) {
	for _, role := range []int{-1, 4, 5, math.MaxInt, math.MinInt} {
		for i := range 4 {
			s := setup()
			s.Roles[i] = role
			needNone(t, "no role", s, nil)
		}
	}
	s := setup()
	s.Places = s.Places[:3]
	needNone(t, "too few places", s, nil)
	s.Places = nil
	needNone(t, "no places", s, nil)
	s = setup()
	s.Roles = s.Roles[:3]
	needNone(t, "too few roles", s, nil)
	s.Roles = nil
	needNone(t, "no roles", s, nil)
	s.Places = nil
	needNone(t, "no nodes", s, nil)
	needNone(t, "nothing", api.Setup{}, nil)
	needNone(t, "very many nodes", api.Setup{Roles: make([]int, 1<<20), Places: make([]api.Place, 1<<20)}, nil)
}

// 23.1: from 1 to 8 nodes.
func TestNodes(t *testing.T) {
	s := api.Setup{File: "f"}
	text := "file 66\ncut 0 0 0 0 0 0\n"
	needNone(t, "0 nodes", s, nil)
	needWrong(t, text+"config 0 0 0 0 0\n", 3, api.ErrForm)
	for n := 1; n <= 10; n++ {
		s.Roles, s.Places = append(s.Roles, api.RoleSeeks), append(s.Places, api.Place{X: n})
		text += "node seeks " + string(rune('0'+n%10)) + " 0\n"
		if n <= 8 {
			needShow(t, s, nil, text+"config 0 0 0 0 0\n")
			needRead(t, text+"config 0 0 0 0 0\n", s, nil)
			needWrong(t, text, n+3, api.ErrForm)
		} else {
			needNone(t, "too many nodes", s, nil)
			needWrong(t, text+"config 0 0 0 0 0\n", 11, api.ErrForm)
		}
	}
}

// 23.1: at most 300 lines.
func TestMaxLines(t *testing.T) {
	var l []api.Deed
	for len(l) < MaxLines-headLines {
		l = append(l, api.Deed{Kind: api.DeedCome, I: len(l)})
	}
	text, e := Show(setup(), l)
	if e != api.OK || strings.Count(text, "\n") != 300 {
		t.Fatalf("Show: %d lines, %v", strings.Count(text, "\n"), e)
	}
	needRead(t, text, setup(), l)
	for range 3 {
		l = append(l, api.Deed{Kind: api.DeedCalm})
		needNone(t, "301 lines", setup(), l)
	}
	needNone(t, "very many lines", setup(), make([]api.Deed, 1<<20))
	needWrong(t, text+"calm\n", 0, api.ErrLong)
	needWrong(t, text+"\n", 0, api.ErrLong)
	// More line feeds come ahead of whatever else is wrong.
	needWrong(t, "wrong\n"+text, 0, api.ErrLong)
	needWrong(t, strings.Repeat("\n", 301), 0, api.ErrLong)
	needWrong(t, strings.Repeat("\n", 1<<20), 0, api.ErrLong)
	needWrong(t, strings.Repeat("\n", 300), 1, api.ErrForm)
	// The line that is not ended has no line feed.
	needWrong(t, text+"calm", 301, api.ErrForm)
	needWrong(t, text+"calm\r", 301, api.ErrForm)
}

// 23.1: a line is missing at the end.
func TestMissing(t *testing.T) {
	needWrong(t, "", 1, api.ErrForm)
	l := strings.SplitAfter(head, "\n")
	for n := range headLines {
		needWrong(t, strings.Join(l[:n], ""), n+1, api.ErrForm)
	}
}

// 23.1: a line that is not ended, be it right or wrong, and the wrong one ahead of it.
func TestNotEnded(t *testing.T) {
	text := head + eachLines
	line := 1
	for i := range text {
		switch {
		case text[:i] == head || strings.HasPrefix(text[:i], head) && text[i-1] == '\n':
			if _, _, at, e := Read(text[:i]); at != 0 || e != api.OK {
				t.Errorf("Read(%q): %d, %v", text[:i], at, e)
			}
		default:
			needWrong(t, text[:i], line, api.ErrForm)
		}
		if text[i] == '\n' {
			line++
		}
	}
	needWrong(t, instead(5, "node Seeks -1 7\n")+"calm", 5, api.ErrForm)
}

// 23.1: lines in another order, doubled, or left out.
func TestOrder(t *testing.T) {
	l := strings.SplitAfter(head, "\n")
	for i := range headLines {
		for j := range headLines {
			if i == j {
				continue
			}
			k := slices.Clone(l)
			k[i], k[j] = k[j], k[i]
			wrong := min(i, j) + 1
			if isNode(wrong-2) && max(i, j) == headLines-1 { // a config may stand behind a node
				wrong++
			}
			needLine(t, strings.Join(k, ""), isNode(i) && isNode(j), wrong)
		}
		// Behind file another one is no cut, and so on; a node may come twice.
		needLine(t, strings.Join(slices.Insert(slices.Clone(l), i, l[i]), ""), isNode(i), i+2)
		needLine(t, strings.Join(slices.Delete(slices.Clone(l), i, i+1), ""), isNode(i), i+1)
		for _, deed := range strings.SplitAfter(strings.TrimSuffix(eachLines, "\n"), "\n") {
			needLine(t, strings.Join(slices.Insert(slices.Clone(l), i, strings.TrimSuffix(deed, "\n")+"\n"), ""), false, i+1)
		}
		needLine(t, head+"calm\n"+l[i], false, headLines+2)
		needLine(t, head+l[i], false, headLines+1)
	}
}

// isNode tells whether a line of the setup, from 0 on, is a node's.
func isNode(i int) bool {
	return 2 <= i && i <= 5
}

// needLine asks whether a text is right, or else which line is wrong.
func needLine(t *testing.T, text string, right bool, line int) {
	t.Helper()
	if !right {
		needWrong(t, text, line, api.ErrForm)
	} else if _, _, at, e := Read(text); at != 0 || e != api.OK {
		t.Errorf("Read(%q): %d, %v", text, at, e)
	}
}

// 23.1: lines that are none.
func TestWrongLines(t *testing.T) {
	for number, l := range map[int][]string{
		1: {"", " ", "file", "file ", "file  68", " file 68", "file 68 ", "file 6", "file 6g", "file 6G", "file AA", "file -68", "file --", "file 68 68", "file 0x68", "File 68", "files 68", "file\t68", "file 68\r", "file -\x00", "cut 2 5 1 2 1 4", "calm"},
		2: {"cut", "cut 2 5 1 2 1", "cut 2 5 1 2 1 4 4", "cut 2 5 1/2 1 4", "cut 2 5 1 2 1 ", "cut  2 5 1 2 1", "cut 02 5 1 2 1 4", "cut 2 5 1 2 1 -0", "cut 2 5 1 2 1 +4", "cut 2 5 1 2 1 a", "cut 2 5 1 2 1 -", "Cut 2 5 1 2 1 4", "cut 2 5 1 2 1 4_0", "cut 2 5 1 2 1 0x4", "cut 2 5 1 2 1 4.0"},
		3: {"node", "node owns", "node owns 0", "node owns 0 0 0", "node  0 0", "node 0 0 0", "node 0 owns 0", "node Owns 0 0", "node own 0 0", "node owns  0", "node owns 0 00", "node owns 0 --1", "node owns - 0", "nodes owns 0 0", "config 10 500 3 20 200"},
		6: {"node lie 1 1", "node liar 1 1", "node lies 1 1 ", "node lies 1 1e0", "node lies 1 1\r", "node lies ١ 1"},
		7: {"config", "config 10 500 3 20", "config 10 500 3 20 200 1", "conf 10 500 3 20 200", "config 10 500 3 20 ", "config 10 500 3 20 -", "config 10 500 3 20 0200", "file 68", "cut 2 5 1 2 1 4", "come 1", "calm"},
	} {
		for _, line := range l {
			needWrong(t, instead(number, line+"\n"), number, api.ErrForm)
			needWrong(t, instead(number, line+"\n")+"wrong\n", number, api.ErrForm)
		}
	}
	for _, line := range []string{
		"", " ", "  ", "\r", "#", "come", "come ", "come  1", "come 1 1", " come 1", "come 1 ", "come 01", "come -0", "come +1", "come 1.", "come 1e2", "come a", "come -", "Come 1", "comes 1", "come\t1",
		"lose", "lose 1 1", "lose 00", "twice", "twice 1 2", "twice  ", "tick", "tick 1", "tick 1 2 3", "tick 1 ", "tick  1", "greet", "greet 1", "greet 1 2 3", "greet 1 -",
		"lie", "lie 1", "lie 1 2", "lie 1 2 ", "lie 1 2 3", "lie 1 2 0A", "lie 1 2 0a 0b", "lie 1 2 - -", "lie 1 2 --", "lie 1 2 0a-", "lie - 2 0a", "lie 1 - 0a", "lie 1 0a 2a",
		"calm ", "calm 1", "calm 0", " calm", "calm calm", "Calm", "CALM", "calm\r", "calm\x00", "calm -", "file 68", "cut 2 5 1 2 1 4", "node lies 1 1", "config 10 500 3 20 200", "owns", "ok", "7",
	} {
		needWrong(t, head+line+"\n", headLines+1, api.ErrForm)
		needWrong(t, head+eachLines+line+"\ncalm\nwrong\n", headLines+8, api.ErrForm)
	}
}

// R3: what is handed in is not changed, and answers share nothing.
func TestShares(t *testing.T) {
	s, l := setup(), each()
	Show(s, l)
	if !reflect.DeepEqual(s, setup()) || !slices.Equal(l, each()) {
		t.Errorf("Show has changed what was handed in: %+v, %+v", s, l)
	}
	a, k, _, _ := Read(head + eachLines)
	a.Roles[0], a.Places[0].X, k[0].I = 9, 9, 9
	needRead(t, head+eachLines, setup(), each())
}
