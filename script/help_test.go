package script

import (
	"math/rand"
	"reflect"
	"slices"
	"strings"
	"testing"

	"mosaic/api"
)

// The lines of a setup of four nodes.
const head = "file 68656c6c6f\ncut 2 5 1 2 1 4\nnode owns 0 0\nnode fetches 3 -4\nnode seeks -1 7\nnode lies 1 1\nconfig 10 500 3 20 200\n"

// headLines is how many these are.
const headLines = 7

// setup is what they say.
func setup() api.Setup {
	return api.Setup{
		File: "hello", Size: 2, Seed: 5, Code: api.Code{Eps: api.Ratio{N: 1, D: 2}, Q: 1, F: 4},
		Roles:  []int{api.RoleOwns, api.RoleFetches, api.RoleSeeks, api.RoleLies},
		Places: []api.Place{{}, {X: 3, Y: -4}, {X: -1, Y: 7}, {X: 1, Y: 1}},
		Config: api.Config{Room: 10, Timeout: 500, Slots: 3, Quota: 20, Out: 200},
	}
}

// each is a deed of each kind, and eachLines are their lines.
func each() []api.Deed {
	return []api.Deed{
		{Kind: api.DeedCome, I: 1}, {Kind: api.DeedLose, I: 2}, {Kind: api.DeedTwice, I: 3}, {Kind: api.DeedTick, Node: 4, I: 5},
		{Kind: api.DeedGreet, Node: 6, To: 7}, {Kind: api.DeedLie, Node: 8, To: 9, Text: "\x0a\xff"}, {Kind: api.DeedCalm},
	}
}

const eachLines = "come 1\nlose 2\ntwice 3\ntick 4 5\ngreet 6 7\nlie 8 9 0aff\ncalm\n"

// needShow asks that a setup and deeds are shown as a text.
func needShow(t *testing.T, s api.Setup, l []api.Deed, want string) {
	t.Helper()
	if got, e := Show(s, l); e != api.OK || got != want {
		t.Errorf("Show: %q, %v, want %q", got, e, want)
	}
}

// needNone asks that no script says just these.
func needNone(t *testing.T, what string, s api.Setup, l []api.Deed) {
	t.Helper()
	if got, e := Show(s, l); e != api.ErrArg || got != "" {
		t.Errorf("%s: %q, %v, want %v", what, got, e, api.ErrArg)
	}
}

// needRead asks that a text says a setup and deeds.
func needRead(t *testing.T, text string, s api.Setup, l []api.Deed) {
	t.Helper()
	got, deeds, line, e := Read(text)
	if e != api.OK || line != 0 || !slices.Equal(deeds, l) || !equal(got, s) {
		t.Errorf("Read(%q): %+v, %+v, %d, %v, want %+v, %+v", text, got, deeds, line, e, s, l)
	}
}

// equal tells whether two setups are the same; a nil list and an empty one are.
func equal(a, b api.Setup) bool {
	if len(a.Roles)+len(b.Roles) == 0 {
		a.Roles, b.Roles = nil, nil
	}
	if len(a.Places)+len(b.Places) == 0 {
		a.Places, b.Places = nil, nil
	}
	return reflect.DeepEqual(a, b)
}

// needWrong asks for an error of Read and of Run, for the line that they tell, and that beside it all is zero.
func needWrong(t *testing.T, text string, line int, e api.Errno) {
	t.Helper()
	short := text[:min(len(text), 300)]
	s, l, at, got := Read(text)
	if got != e || at != line {
		t.Errorf("Read(%q): %d, %v, want %d, %v", short, at, got, line, e)
	}
	if !reflect.DeepEqual(s, api.Setup{}) || len(l) != 0 {
		t.Errorf("Read(%q): beside an error %+v, %+v", short, s, l)
	}
	if out, at, got := Run(text); out != "" || at != line || got != e {
		t.Errorf("Run(%q): %q, %d, %v, want %d, %v", short, out, at, got, line, e)
	}
}

// needRun asks for what a script tells.
func needRun(t *testing.T, text string, want ...string) {
	t.Helper()
	out, line, e := Run(text)
	if e != api.OK || line != 0 || out != strings.Join(want, "\n")+"\n" {
		t.Errorf("Run(%q): %q, %d, %v, want %q", text, out, line, e, want)
	}
}

// instead is the lines of the setup with another one (or several, or none) in place of the one of a number.
func instead(number int, line string) string {
	l := strings.SplitAfter(head, "\n")
	l[number-1] = line
	return strings.Join(l, "")
}

// chanceNumber is some number of at most 18 digits, often a small one.
func chanceNumber(r *rand.Rand) int {
	n := r.Intn([]int{2, 10, 100, 1 << 20, 1e18}[r.Intn(5)])
	return n * (1 - 2*r.Intn(2))
}

func chanceBytes(r *rand.Rand) string {
	text := make([]byte, r.Intn(5))
	r.Read(text)
	return string(text)
}

// chanceSetup is some setup that a script can say.
func chanceSetup(r *rand.Rand) api.Setup {
	n := func() int { return chanceNumber(r) }
	s := api.Setup{
		File: chanceBytes(r), Size: n(), Seed: n(), Code: api.Code{Eps: api.Ratio{N: n(), D: n()}, Q: n(), F: n()},
		Config: api.Config{Room: n(), Timeout: n(), Slots: n(), Quota: n(), Out: n()},
	}
	for range 1 + r.Intn(8) {
		s.Roles = append(s.Roles, r.Intn(4))
		s.Places = append(s.Places, api.Place{X: n(), Y: n()})
	}
	return s
}

// chanceDeeds are some deeds that a script can say.
func chanceDeeds(r *rand.Rand) []api.Deed {
	n := func() int { return chanceNumber(r) }
	var l []api.Deed
	for range r.Intn(9) {
		kinds := []api.Deed{
			{Kind: 1, I: n()}, {Kind: 2, I: n()}, {Kind: 3, I: n()}, {Kind: 4, Node: n(), I: n()},
			{Kind: 5, Node: n(), To: n()}, {Kind: 6, Node: n(), To: n(), Text: chanceBytes(r)}, {Kind: 7},
		}
		l = append(l, kinds[r.Intn(len(kinds))])
	}
	return l
}
