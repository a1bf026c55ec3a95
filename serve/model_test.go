package serve

import (
	"maps"
	"slices"
	"strings"
	"testing"
)

// model is a server as the document tells it, in the plainest way: one thing behind the other, and texts throughout.
type model struct {
	forward bool
	room    int
	objects map[string]string
	refs    map[string]string
	locks   map[string]int
	pushes  []*modelPush
}

type modelPush struct {
	commands, texts []string
	done            int
	reply           string
	dropped         bool
}

func (m *model) step(c int) int {
	p := m.pushes[c]
	read := len(p.commands) + len(p.texts) + 2
	locked := read + len(p.commands)
	switch {
	case p.dropped || p.done == locked+2:
		return -1
	case p.done >= read && p.done < locked:
		var refs []string
		for _, command := range p.commands {
			refs = append(refs, command[18:])
		}
		slices.Sort(refs)
		ref := refs[p.done-read]
		if _, held := m.locks[ref]; held {
			return 0
		}
		m.locks[ref] = c
	case p.done == locked:
		p.reply = m.decide(p)
	case p.done == locked+1:
		m.giveBack(c)
	}
	p.done++
	return 1
}

func (m *model) giveBack(c int) {
	maps.DeleteFunc(m.locks, func(_ string, holder int) bool { return holder == c })
}

func (m *model) drop(c int) bool {
	p := m.pushes[c]
	if m.finished(p) {
		return false
	}
	p.dropped = true
	m.giveBack(c)
	return true
}

func (m *model) finished(p *modelPush) bool {
	return p.dropped || p.done == 2*len(p.commands)+len(p.texts)+4
}

func (m *model) tell(c int) (string, bool) {
	if p := m.pushes[c]; m.finished(p) && !p.dropped {
		return p.reply, true
	}
	return "", false
}

func (m *model) decide(p *modelPush) string {
	all := maps.Clone(m.objects)
	clash := false
	for _, text := range p.texts {
		known, there := all[ID(text)]
		clash = clash || there && known != text
		all[ID(text)] = text
	}
	var words []string
	well := true
	for _, command := range p.commands {
		words = append(words, m.word(command, all))
		well = well && words[len(words)-1] == "ok"
	}
	common := ""
	switch {
	case clash:
		common = "clash"
	case well && len(all) > len(m.objects) && len(all) > m.room:
		common = "room"
	case well:
		m.objects = all
	}
	reply := "unpack ok\n"
	for i, command := range p.commands {
		_, id, ref := part(command)
		switch {
		case common != "":
			reply += "ng " + ref + " " + common + "\n"
		case !well && words[i] == "ok":
			reply += "ng " + ref + " aborted\n"
		case !well:
			reply += "ng " + ref + " " + words[i] + "\n"
		default:
			reply += "ok " + ref + "\n"
			m.refs[ref] = id
			if id == nothing {
				delete(m.refs, ref)
			}
		}
	}
	return reply
}

// part gives OLD, NEW and REF.
func part(command string) (string, string, string) {
	return command[:8], command[9:17], command[18:]
}

func (m *model) word(command string, all map[string]string) string {
	old, id, ref := part(command)
	now, there := m.refs[ref]
	if !there {
		now = nothing
	}
	if now != old {
		return "stale"
	}
	if id == nothing {
		return "ok"
	}
	reached := closure(id, func(id string) []string {
		ids, _ := Look(all[id])
		return ids
	})
	for id := range reached {
		if all[id] == "" {
			return "missing"
		}
	}
	kind := func(id string) string { return strings.Fields(all[id])[0] }
	if kind(id) != "commit" {
		return "type"
	}
	for id := range reached {
		ids, _ := Look(all[id])
		for i, named := range ids {
			wrong := kind(id) == "tree" && kind(named) == "commit"
			wrong = wrong || kind(id) == "commit" && i == 0 && kind(named) != "tree"
			wrong = wrong || kind(id) == "commit" && i > 0 && kind(named) != "commit"
			if wrong {
				return "type"
			}
		}
	}
	back := closure(id, func(id string) []string {
		ids, _ := Look(all[id])
		return ids[1:]
	})
	if m.forward && old != nothing && !back[old] {
		return "forward"
	}
	return "ok"
}

// closure adds what can be reached until nothing is added any more.
func closure(id string, next func(string) []string) map[string]bool {
	found := map[string]bool{id: true}
	for size := 0; size < len(found); {
		size = len(found)
		for _, id := range slices.Collect(maps.Keys(found)) {
			for _, named := range next(id) {
				found[named] = true
			}
		}
	}
	return found
}

// reach gives an id and all that can be reached from it, in order.
func (m *model) reach(id string) []string {
	if id == nothing {
		return nil
	}
	ids := []string{id}
	for i := 0; i < len(ids); i++ {
		named, _ := Look(m.objects[ids[i]])
		for _, id := range named {
			if !slices.Contains(ids, id) {
				ids = append(ids, id)
			}
		}
	}
	return ids
}

// wantThere tells if a server says anything else than the model about what is there.
func (m *model) wantThere(t *testing.T, s *Server, id string) {
	t.Helper()
	want := make([]Ref, 0, len(m.refs))
	for _, name := range slices.Sorted(maps.Keys(m.refs)) {
		want = append(want, Ref{Name: name, ID: m.refs[name]})
	}
	if got := s.Refs(); !slices.Equal(got, want) {
		t.Fatalf("P9: Refs() = %v, want %v", got, want)
	}
	if text, ok := s.Object(id); text != m.objects[id] || ok != (text != "") {
		t.Fatalf("P9: Object(%s) = %q, %v, want %q", id, text, ok, m.objects[id])
	}
	wantTold(t, "as the model says", s.Reach(id), m.reach(id))
}

// world gives objects of all kinds that name each other, some of them wrongly.
func world() []string {
	blobTree := treeOf(helloBlob)
	root := commitOf("root", emptyTree)
	son := commitOf("son", blobTree, root)
	other := commitOf("other", emptyTree)
	merge := commitOf("merge", treeOf(helloBlob, blobTree), son, other)
	return []string{
		emptyTree, helloBlob, blobTree, root, son, other, treeOf(helloBlob, blobTree), merge,
		emptyTree, blobTree, root, son, other, merge, commitOf("last", emptyTree, merge),
		ringTree, ringCommit, commitOf("ring", ringTree, ringCommit),
		twinBlob, twinOther, commitOf("twin", treeOf(twinBlob)),
		treeOf(root), commitOf("wrong", treeOf(root)), commitOf("wrong", helloBlob), commitOf("wrong", emptyTree, emptyTree),
	}
}

// anyPush makes a push of the world's objects; it is often what can be taken.
func (m *model) anyPush(next func(int) int) *modelPush {
	texts := world()
	refs := []string{"refs/a", "refs/a0", "refs/b", "refs/-"}
	p := &modelPush{}
	start := next(len(refs))
	for i := range 1 + next(3) {
		ref := refs[(start+i*(1+next(2)*2))%len(refs)]
		if slices.ContainsFunc(p.commands, func(c string) bool { return c[18:] == ref }) {
			continue
		}
		old, there := m.refs[ref]
		if !there || next(8) == 0 {
			old = nothing
		}
		id := ID(texts[next(len(texts))])
		switch next(6) {
		case 0:
			id = nothing
		case 1, 2, 3:
			id = ID(texts[10+next(5)])
		}
		p.commands = append(p.commands, old+" "+id+" "+ref)
	}
	for range next(2) * next(10) {
		p.texts = append(p.texts, texts[next(len(texts))])
	}
	return p
}

func (p *modelPush) bytes() string {
	return pushOf(strings.Join(p.commands, ","), p.texts...)
}

// follow lets a server and the model do the same, in turns of any order, and counts the words that are told.
func follow(t *testing.T, seed uint32, told map[string]int) {
	next := numbers(seed)
	forward, room := next(3) > 0, next(24)-1
	s := New(forward, room)
	defer s.Stop()
	m := &model{forward: forward, room: max(room, 0), objects: map[string]string{}, refs: map[string]string{}, locks: map[string]int{}}
	begin := func(p *modelPush) {
		if !s.Feed(s.Open(), p.bytes()) {
			t.Fatalf("a push that is too long: %q", p.bytes())
		}
		m.pushes = append(m.pushes, p)
	}
	// Where there is room for it, most of what can be right is there from the start.
	begin(&modelPush{commands: []string{"00000000 00000000 refs/a"}, texts: world()[:8]})
	for m.step(0) == 1 {
		s.Step(0)
	}
	asked := append(idsOf(world()...), nothing, "12345678")
	for range 300 {
		if len(m.pushes) < 8 && next(6) == 0 {
			begin(m.anyPush(next))
		}
		c := next(len(m.pushes))
		if next(60) == 0 {
			if got, want := s.Drop(c), m.drop(c); got != want {
				t.Fatalf("P7: %d: Drop(%d) = %v, want %v", seed, c, got, want)
			}
		}
		if got, want := s.Step(c), m.step(c); got != want {
			t.Fatalf("P4: %d: Step(%d) = %d, want %d", seed, c, got, want)
		}
		want, finished := m.tell(c)
		if got, ok := s.Reply(c); got != want || ok != finished {
			t.Fatalf("P6: %d: Reply(%d) = %q, %v, want %q, %v", seed, c, got, ok, want, finished)
		}
		if next(4) == 0 {
			m.wantThere(t, s, asked[next(len(asked))])
		}
	}
	s.Stop()
	for _, id := range asked {
		m.wantThere(t, s, id)
	}
	for c := range m.pushes {
		reply, _ := m.tell(c)
		for _, line := range strings.Split(reply, "\n") {
			words := strings.Fields(line)
			if len(words) > 0 {
				told[words[0]]++
				told[words[len(words)-1]]++
			}
		}
	}
}

func TestAsTheModelSays(t *testing.T) {
	told := map[string]int{}
	for seed := range uint32(3000) {
		follow(t, seed, told)
	}
	for _, word := range strings.Fields("unpack ok ng stale missing type forward room clash aborted") {
		if told[word] < 100 {
			t.Errorf("the word %s was told %d times: too few to have looked at it", word, told[word])
		}
	}
}
