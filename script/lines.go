package script

import (
	"iter"
	"slices"
	"strings"

	"mosaic/api"
)

const (
	blank   = " "  // between words
	lineEnd = "\n" // behind a line
)

// The parts of a script, in their order.
const (
	partNone = iota
	partFile
	partCut
	partNode
	partConfig
	partDeed
)

// setupWords are the first words of the lines that say the setup, by their parts.
func setupWords() []string {
	return []string{partFile: "file", partCut: "cut", partNode: "node", partConfig: "config"}
}

// deedWords are the first words of the lines that say deeds, by their kinds.
func deedWords() []string {
	return []string{
		api.DeedCome: "come", api.DeedLose: "lose", api.DeedTwice: "twice", api.DeedTick: "tick",
		api.DeedGreet: "greet", api.DeedLie: "lie", api.DeedCalm: "calm",
	}
}

// partOf is the part that a line of this first word says, and the kind of a deed.
func partOf(first string) (part, kind int) {
	if part := slices.Index(setupWords(), first); part > partNone {
		return part, 0
	}
	if kind := slices.Index(deedWords(), first); kind > 0 {
		return partDeed, kind
	}
	return partNone, 0
}

// lines yields the lines of a text, and whether each is ended.
func lines(text string) iter.Seq2[string, bool] {
	return func(yield func(string, bool) bool) {
		for rest := text; rest != ""; {
			line, behind, ended := strings.Cut(rest, lineEnd)
			if !yield(line, ended) {
				return
			}
			rest = behind
		}
	}
}

// join is a line of words.
func join(words ...string) string {
	return strings.Join(words, blank) + lineEnd
}

// reader is what the lines that were read say; part is what the last one said.
type reader struct {
	part  int
	setup api.Setup
	deeds []api.Deed
}

// take takes up a line, if it is one that may stand here; what it leaves behind of another one is not used.
func (r *reader) take(line string) bool {
	words := strings.Split(line, blank)
	part, kind := partOf(words[0])
	var slots []slot
	if !r.mayStand(part) {
		goto wrong
	}
	slots = r.open(part, kind)
	if len(slots) != len(words)-1 {
		goto wrong
	}
	for i, x := range slots {
		if !x.read(words[i+1]) {
			goto wrong
		}
	}
	r.part = part
	return true
wrong:
	return false
}

// mayStand tells whether a line of a part may stand behind what was said.
func (r *reader) mayStand(part int) bool {
	if part == partNode && r.part == partNode {
		return len(r.setup.Roles) < maxNodes
	}
	return part == r.part+1 || part == partDeed && r.part == partDeed
}

// open makes room for what a line says.
func (r *reader) open(part, kind int) []slot {
	if part == partDeed {
		r.deeds = append(r.deeds, api.Deed{Kind: kind})
		return deedSlots(&r.deeds[len(r.deeds)-1])
	}
	s := &r.setup
	if part == partNode {
		s.Roles = append(s.Roles, 0)
		s.Places = append(s.Places, api.Place{})
	}
	return setupSlots(s, part, len(s.Roles)-1)
}

// write writes a setup and deeds as lines; an empty word stands for what there is no word for.
func write(s api.Setup, l []api.Deed) string {
	var text strings.Builder
	say := func(first string, slots []slot) {
		words := []string{first}
		for _, x := range slots {
			words = append(words, x.write())
		}
		text.WriteString(join(words...))
	}
	first := setupWords()
	say(first[partFile], setupSlots(&s, partFile, 0))
	say(first[partCut], setupSlots(&s, partCut, 0))
	for i := range s.Roles {
		say(first[partNode], setupSlots(&s, partNode, i))
	}
	say(first[partConfig], setupSlots(&s, partConfig, 0))
	for _, d := range l {
		say(wordAt(deedWords(), d.Kind), deedSlots(&d))
	}
	return text.String()
}
