package script

import (
	"strconv"
	"strings"
	"testing"

	"mosaic/api"
	"mosaic/manifest"
	"mosaic/sha"
	"mosaic/wire"
)

// Example 1 of the chapter, and 10 of the whole.
func TestExample(t *testing.T) {
	needRun(t, "file 68\ncut 1 0 1 2 1 4\nnode owns 0 0\nconfig 5 9 1 9 50\ncalm\n", "1 calm 0 done", "node 1 2 done 68")
}

// 23.2: of no deeds just the nodes are told: who seeks has no manifest, and no blocks.
func TestRunNothing(t *testing.T) {
	needRun(t, head, "node 1 4 done 68656c6c6f", "node 2 0 not", "node 3 0 not", "node 4 lies")
}

// 23.2: of each deed what the swarm answers.
func TestRunDeeds(t *testing.T) {
	text := head + strings.Join([]string{
		"come 0", "lose 0", "twice 0", // nothing is under way
		"greet 2 1", "twice 0", "lose 1", "come -1", "come 0",
		"tick 1 0", "tick 1 -1", "tick 4 0", "tick 5 0", "greet 3 3", "greet 4 1", "greet 9 1",
		"lie 4 1 0a", "lie 4 4 0a", "lie 2 1 0a", "lie 4 1 -", "lie 4 16 -", "lie 4 1 " + strings.Repeat("00", 400), "lie 4 1 " + strings.Repeat("00", 401), "come 100",
	}, "\n") + "\n"
	needRun(t, text,
		"1 error 4", "2 error 4", "3 error 4", "4 ok", "5 ok", "6 ok", "7 error 4", "8 ok",
		"9 ok", "10 error 1", "11 error 1", "12 error 1", "13 error 1", "14 error 1", "15 error 1",
		"16 ok", "17 error 1", "18 error 1", "19 ok", "20 error 1", "21 ok", "22 error 1", "23 ok",
		"node 1 4 done 68656c6c6f", "node 2 0 not", "node 3 0 not", "node 4 lies")
}

// 23.2: errors are told by their numbers: that of one who was banned is 10.
func TestRunBan(t *testing.T) {
	s := setup()
	m, _, _ := manifest.Publish(s.File, manifest.Want{Size: s.Size, Seed: s.Seed, Code: s.Code})
	hello := wire.Text(api.Msg{Kind: api.MsgHello, Name: manifest.Name(m)})
	proof := wire.Text(api.Msg{Kind: api.MsgProof, Num: 0, Digest: m.Root, Path: []string{m.Root, m.Root}})
	// Behind the greeting four datagrams to the liar are under way; the proof is the fifth.
	text := head + join("lie 4 2", sha.Hex(hello)) + "come 0\n" + join("lie 4 2", sha.Hex(proof)) + "come 4\ngreet 2 4\n"
	needRun(t, text, "1 ok", "2 ok", "3 ok", "4 ok", "5 error 10", "node 1 4 done 68656c6c6f", "node 2 0 not", "node 3 0 not", "node 4 lies")
}

// 23.2: calm tells the rounds, and whether all are done; a liar's lies come in it.
func TestRunCalm(t *testing.T) {
	x, _, _ := Run(head + "lie 4 2 ff\ncalm\ncalm\n")
	l := strings.Split(x, "\n")
	if len(l) != 8 || l[0] != "1 ok" || l[2] != "3 calm 0 done" || l[3] != "node 1 4 done 68656c6c6f" || l[4] != "node 2 4 done 68656c6c6f" || l[5] != "node 3 4 done 68656c6c6f" || l[6] != "node 4 lies" || l[7] != "" {
		t.Fatalf("Run: %q", x)
	}
	words := strings.Split(l[1], " ")
	if n, _ := strconv.Atoi(words[2]); len(words) != 4 || words[0] != "2" || words[1] != "calm" || words[3] != "done" || n < 1 || n > 116 {
		t.Errorf("calm: %q", l[1])
	}
	// With room for one datagram nothing is got: 60, 10 for each of 4 blocks, and 16 rounds.
	needRun(t, strings.Replace(strings.Replace(head, "20 200", "20 1", 1), "10 500", "10 1", 1)+"calm\n",
		"1 calm 116 not", "node 1 4 done 68656c6c6f", "node 2 0 not", "node 3 0 not", "node 4 lies")
}

// 23.2: a node that is not done tells how many blocks it has, and no file.
func TestRunSome(t *testing.T) {
	text := head + "greet 2 1\n"
	for i := range 6 {
		text += strings.Repeat("come 0\n", 12) + join("tick 1", strconv.Itoa(i)) + "tick 2 0\n"
	}
	out, _, e := Run(text)
	if !strings.HasSuffix(out, "node 2 1 not\nnode 3 0 not\nnode 4 lies\n") || e != api.OK {
		t.Errorf("Run: %q, %v", out, e)
	}
}

// 23.2: setups of which there is no swarm; the script's own errors come first.
func TestRunNoSwarm(t *testing.T) {
	for number, lines := range map[int][]string{
		1: {"file -"},
		2: {"cut 0 5 1 2 1 4", "cut 65 5 1 2 1 4", "cut 2 -1 1 2 1 4", "cut 2 5 2 4 1 4", "cut 2 5 1 2 0 4", "cut 2 5 1 2 1 65", "cut 2 5 0 1 1 4"},
		3: {"node fetches 0 0", "node seeks 0 0", "node lies 0 0", "node owns 1048577 0"},
		5: {"node owns 0 0", "node seeks 0 -1048577", "node seeks 1 1\nnode seeks 1 1\nnode seeks 1 1\nnode seeks 1 1"},
		7: {"config 0 500 3 20 200", "config 16 500 3 20 200", "config 10 0 3 20 200", "config 10 500 -1 20 200", "config 10 500 3 27 200", "config 10 500 3 20 301"},
	} {
		for _, line := range lines {
			text := instead(number, line+"\n")
			if _, _, at, e := Read(text); at != 0 || e != api.OK {
				t.Errorf("Read(%q): %d, %v", text, at, e)
			}
			for _, text := range []string{text, text + eachLines} {
				if out, at, e := Run(text); out != "" || at != 0 || e != api.ErrArg {
					t.Errorf("Run(%q): %q, %d, %v", text, out, at, e)
				}
			}
			needWrong(t, text+"wrong\n", strings.Count(text, "\n")+1, api.ErrForm)
		}
	}
	// Six nodes are a swarm.
	if _, _, e := Run(instead(5, "node seeks 1 1\nnode seeks 1 1\nnode seeks 1 1\n")); e != api.OK {
		t.Errorf("six nodes: %v", e)
	}
}
