package tests

import (
	"fmt"
	"math"
	"slices"
	"strings"
	"testing"

	"loop.example/g01243/impl"
)

func stateWith(end bool, edges ...[2]int) impl.State {
	return impl.State{End: end, Edges: edges}
}

func machineWith(states ...impl.State) impl.Machine {
	return impl.Machine{States: states}
}

func sameState(a, b impl.State) bool {
	return a.End == b.End && slices.Equal(a.Edges, b.Edges)
}

func sameMachine(a, b impl.Machine) bool {
	return slices.EqualFunc(a.States, b.States, sameState)
}

func copyMachine(m impl.Machine) impl.Machine {
	states := slices.Clone(m.States)
	for i := range states {
		states[i].Edges = slices.Clone(states[i].Edges)
	}
	return impl.Machine{States: states}
}

// plainEnds tells what is behind a prefix in the words that begin with it, as one text.
func plainEnds(words []string, prefix string) string {
	return fmt.Sprintf("%q", plainBehind(words, prefix))
}

// plainStates returns the State of each prefix of some words, by its place.
func plainStates(words []string) []int {
	states, byEnds := []int{}, map[string]int{}
	for _, prefix := range plainPrefixes(words) {
		ends := plainEnds(words, prefix)
		if _, known := byEnds[ends]; !known {
			byEnds[ends] = len(byEnds)
		}
		states = append(states, byEnds[ends])
	}
	return states
}

// plainMachine returns the Machine of some words, as the document describes it: one State for all
// prefixes with the same texts behind them, in the order of the first ones. It keeps no limits.
func plainMachine(words []string) impl.Machine {
	words = sortedSet(words)
	states, prefixes := plainStates(words), plainPrefixes(words)
	m := impl.Machine{}
	for place, prefix := range prefixes {
		if states[place] != len(m.States) {
			continue
		}
		state := impl.State{End: slices.Contains(words, prefix)}
		for other, kid := range prefixes {
			if len(kid) == len(prefix)+1 && strings.HasPrefix(kid, prefix) {
				state.Edges = append(state.Edges, [2]int{int(kid[len(prefix)]) - 'a', states[other]})
			}
		}
		m.States = append(m.States, state)
	}
	return m
}

// isPlainMachine walks all ways of a Machine, as long as there can be so many, and holds it against
// the Machine of the words on these ways.
func isPlainMachine(m impl.Machine) bool {
	words, ways := []string{}, 0
	var walk func(state int, prefix string) bool
	walk = func(state int, prefix string) bool {
		ways++
		if state < 0 || state >= len(m.States) || len(prefix) > impl.MaxLetters || ways > 1000 {
			return false
		}
		if m.States[state].End {
			words = append(words, prefix)
		}
		for _, edge := range m.States[state].Edges {
			if edge[0] < 0 || edge[0] > 25 || !walk(edge[1], prefix+string(rune('a'+edge[0]))) {
				return false
			}
		}
		return true
	}
	return walk(0, "") && len(words) <= impl.MaxWords && sameMachine(m, plainMachine(words))
}

// rowMachine returns a Machine of a row of States, each with Edges of the first letters to the next
// one; the last one has End.
func rowMachine(n, letters int) impl.Machine {
	m := impl.Machine{States: make([]impl.State, n)}
	m.States[n-1].End = true
	for place := range n - 1 {
		for letter := range letters {
			m.States[place].Edges = append(m.States[place].Edges, [2]int{letter, place + 1})
		}
	}
	return m
}

// unsharedMachine returns the States of all prefixes of some words, as if no ends were equal.
func unsharedMachine(words []string) impl.Machine {
	m := impl.Machine{}
	for place, node := range plainTrie(words).Nodes {
		m.States = append(m.States, impl.State{End: node.End})
		if place > 0 {
			above := &m.States[node.Parent]
			above.Edges = append(above.Edges, [2]int{node.Letter, place})
		}
	}
	return m
}

// swapped returns a Machine with two States in each other's places, their Edges with them.
func swapped(m impl.Machine, a, b int) impl.Machine {
	m = copyMachine(m)
	m.States[a], m.States[b] = m.States[b], m.States[a]
	for _, state := range m.States {
		for i := range state.Edges {
			switch state.Edges[i][1] {
			case a:
				state.Edges[i][1] = b
			case b:
				state.Edges[i][1] = a
			}
		}
	}
	return m
}

// fewShared returns words of the most letters, of which hardly any two have equal ends.
func fewShared(n int) []string {
	words := []string{}
	for k := range n {
		pair := string(rune('a'+k%26)) + string(rune('a'+k/26))
		words = append(words, pair+strings.Repeat("m", impl.MaxLetters-4)+pair)
	}
	return sortedSet(words)
}

// fullRows returns all words of a length over some letters.
func fullRows(letters string, size int) []string {
	return sortedSet(chosen(textsOver(letters, size), func(w string) bool { return len(w) == size }))
}

// fewTexts returns texts of and near to a set of words; of very many ones some.
func fewTexts(set []string) []string {
	texts := nearTexts(set)
	few := []string{}
	for i, text := range texts {
		if len(texts) < 200 || i%9 == 0 {
			few = append(few, text)
		}
	}
	return few
}

// machineSets are edges of what can be equal in a Trie.
func machineSets() [][]string {
	return append(edgeSets(),
		[]string{"ab", "cb", "d"}, []string{"ab", "ccb"}, []string{"ab", "cd"}, []string{"a", "bc", "def"}, []string{"abc", "abd", "cbc", "cbd"},
		[]string{"", "a", "aa", "b", "ba"}, []string{"a", "ab", "b", "bb"}, []string{"a", "b", "bb"}, []string{"", "aab", "ab", "b"},
		fullRows("ab", 5), fullRows("abc", 3), fullRows("abcdef", 2), sortedSet(textsOver("ab", 4)), fewShared(impl.MaxWords), fullForks(),
	)
}

// mustMachine returns the Machine of a set of words, which has to be the plain one.
func mustMachine(t *testing.T, set []string) impl.Machine {
	t.Helper()
	m, ok := impl.MachineOf(plainTrie(set))
	if !ok || !sameMachine(m, plainMachine(set)) {
		t.Fatalf("MachineOf(%q) = %v, %v; want %v", set, m, ok, plainMachine(set))
	}
	return m
}

// badMachines returns Machines that are not valid, by what is wrong with them.
func badMachines() map[string]impl.Machine {
	long := strings.Repeat("a", impl.MaxLetters+1)
	leaf := stateWith(true)
	good := plainMachine([]string{"ab", "ccb", "d"})
	bad := map[string]impl.Machine{
		"no States":                    {},
		"an empty list":                {States: []impl.State{}},
		"a word too many":              plainMachine(manyWords(impl.MaxWords + 1)),
		"the empty one too":            plainMachine(append([]string{""}, manyWords(impl.MaxWords)...)),
		"too many words of two States": rowMachine(3, 7),
		"very many words":              rowMachine(impl.MaxLetters+1, 26),
		"very many long words":         rowMachine(100, 26),
		"a word too long":              plainMachine([]string{long}),
		"a word too long beside one":   plainMachine([]string{"b", long}),
		"words too long":               plainMachine(chainWords(impl.MaxLetters + 2)),
		"a word far too long":          rowMachine(100000, 1),
		"a letter before a":            plainMachine([]string{"`"}),
		"a letter behind z":            plainMachine([]string{"{"}),
		"many States":                  {States: make([]impl.State, 1000000)},
		"a ring of one":                machineWith(stateWith(false, [2]int{0, 0})),
		"a ring of one with End":       machineWith(stateWith(true, [2]int{0, 0})),
		"a wide ring":                  machineWith(stateWith(true, [2]int{0, 0}, [2]int{1, 0}, [2]int{2, 0})),
		"a ring of two":                machineWith(stateWith(false, [2]int{0, 1}), stateWith(true, [2]int{0, 0})),
		"a ring below":                 machineWith(stateWith(false, [2]int{0, 1}), stateWith(false, [2]int{1, 2}), stateWith(true, [2]int{2, 1})),
		"a ring of one below":          machineWith(stateWith(false, [2]int{0, 1}), stateWith(true, [2]int{0, 1})),
		"a ring of no words":           machineWith(stateWith(true, [2]int{0, 1}), stateWith(false, [2]int{0, 1})),
		"a ring apart":                 machineWith(stateWith(true), stateWith(true, [2]int{0, 1})),
		"words of no State":            machineWith(stateWith(false), leaf),
		"State 0 twice":                machineWith(stateWith(false), stateWith(false)),
		"the empty word twice":         machineWith(leaf, leaf),
		"no word below":                machineWith(stateWith(false, [2]int{0, 1}), stateWith(false)),
		"no word below a word":         machineWith(stateWith(true, [2]int{0, 1}), stateWith(false)),
		"no word below one of two":     machineWith(stateWith(false, [2]int{0, 1}, [2]int{1, 2}), leaf, stateWith(false)),
		"equal ends in two leaves":     unsharedMachine([]string{"a", "b"}),
		"equal ends in two States":     machineWith(stateWith(false, [2]int{0, 1}, [2]int{1, 3}), stateWith(false, [2]int{2, 2}), leaf, stateWith(false, [2]int{2, 2})),
		"no ends shared":               unsharedMachine([]string{"ab", "ccb", "d"}),
		"leaves alone shared":          machineWith(stateWith(false, [2]int{0, 1}, [2]int{2, 3}, [2]int{3, 2}), stateWith(false, [2]int{1, 2}), leaf, stateWith(false, [2]int{2, 4}), stateWith(false, [2]int{1, 2})),
		"no text to a new State":       {States: append(copyMachine(good).States, stateWith(true, [2]int{0, 2}))},
		"no text to an equal State":    {States: append(copyMachine(good).States, leaf)},
		"no text to very many States":  {States: append(copyMachine(good).States, make([]impl.State, 100000)...)},
		"a State too few":              {States: copyMachine(good).States[:3]},
		"the last States first":        swapped(good, 2, 3),
		"the first States last":        swapped(good, 1, 2),
		"State 0 in another place":     swapped(good, 0, 1),
		"State 0 at the end":           swapped(good, 0, 3),
		"by their levels":              machineWith(stateWith(false, [2]int{0, 2}, [2]int{2, 1}, [2]int{3, 3}), stateWith(false, [2]int{2, 2}), stateWith(false, [2]int{1, 3}), leaf),
		"very many Edges":              machineWith(impl.State{Edges: slices.Repeat([][2]int{{0, 1}}, 1000000)}, leaf),
		"very many Edges to nothing":   machineWith(impl.State{Edges: make([][2]int, 1000000)}),
		"very many Edges below":        machineWith(stateWith(false, [2]int{0, 1}), impl.State{Edges: slices.Repeat([][2]int{{0, 2}}, 1000000)}, leaf),
	}
	edges := func(name string, list ...[2]int) {
		wrong := copyMachine(good)
		wrong.States[0].Edges = list
		bad[name] = wrong
	}
	a, c, d := good.States[0].Edges[0], good.States[0].Edges[1], good.States[0].Edges[2]
	edges("no Edges of State 0")
	edges("Edges not in order", c, a, d)
	edges("Edges from the end", d, c, a)
	edges("an Edge twice", a, c, c, d)
	edges("an Edge twice at the end", a, c, d, d)
	edges("an Edge twice, not side by side", a, c, a, d)
	edges("a letter twice", a, [2]int{0, 2}, c, d)
	for name, letter := range map[string]int{
		"below a": -1, "far below a": -26, "behind z": 26, "told as a byte": 'd', "the greatest": math.MaxInt, "the least": math.MinInt, "great": 1 << 32, "z and a turn": 256,
	} {
		edges("the last letter: "+name, a, c, [2]int{letter, 2})
		edges("the first letter: "+name, [2]int{letter, 1}, c, d)
	}
	for name, place := range map[string]int{
		"none": -1, "below none": -2, "one behind": 4, "far behind": 1000, "the greatest": math.MaxInt, "the least": math.MinInt, "great": 1<<32 + 2,
		"State 0": 0,
	} {
		edges("the last place: "+name, a, c, [2]int{3, place})
	}
	return bad
}

func TestPromise7MachinesOfWords(t *testing.T) {
	leaf := stateWith(true)
	for _, c := range []struct {
		words []string
		want  impl.Machine
	}{
		{nil, machineWith(stateWith(false))},
		{[]string{""}, machineWith(leaf)},
		{[]string{"a"}, machineWith(stateWith(false, [2]int{0, 1}), leaf)},
		{[]string{"z", "", "z"}, machineWith(stateWith(true, [2]int{25, 1}), leaf)},
		{[]string{"", "a", "aa"}, machineWith(stateWith(true, [2]int{0, 1}), stateWith(true, [2]int{0, 2}), leaf)},
		{[]string{"ab", "cb", "d"}, machineWith(stateWith(false, [2]int{0, 1}, [2]int{2, 1}, [2]int{3, 2}), stateWith(false, [2]int{1, 2}), leaf)},
		// An Edge may lead back to a State that is a way ahead, without being a ring.
		{[]string{"ab", "ccb"}, machineWith(stateWith(false, [2]int{0, 1}, [2]int{2, 3}), stateWith(false, [2]int{1, 2}), leaf, stateWith(false, [2]int{2, 1}))},
		{[]string{"b", "ab"}, machineWith(stateWith(false, [2]int{0, 1}, [2]int{1, 2}), stateWith(false, [2]int{1, 2}), leaf)},
		// What is behind is the same, but one of them is a word itself.
		{[]string{"ac", "b", "bc"}, machineWith(stateWith(false, [2]int{0, 1}, [2]int{1, 3}), stateWith(false, [2]int{2, 2}), leaf, stateWith(true, [2]int{2, 2}))},
		{[]string{"a", "ac", "b", "bc"}, machineWith(stateWith(false, [2]int{0, 1}, [2]int{1, 1}), stateWith(true, [2]int{2, 2}), leaf)},
		{
			[]string{"card", "care", "cart", "cat"},
			machineWith(stateWith(false, [2]int{2, 1}), stateWith(false, [2]int{0, 2}), stateWith(false, [2]int{17, 3}, [2]int{19, 4}),
				stateWith(false, [2]int{3, 4}, [2]int{4, 4}, [2]int{19, 4}), leaf),
		},
		{fullRows("ab", 5), rowMachine(6, 2)},
		{fullRows("abcdef", 2), rowMachine(3, 6)},
		{[]string{strings.Repeat("a", impl.MaxLetters)}, rowMachine(impl.MaxLetters+1, 1)},
		{strings.Split("abcdefghijklmnopqrstuvwxyz", ""), rowMachine(2, 26)},
	} {
		trie, _ := impl.TrieOf(c.words)
		m, ok := impl.MachineOf(trie)
		if !ok || !sameMachine(m, c.want) || !impl.IsMachine(m) {
			t.Errorf("MachineOf(%q) = %v, %v; want %v", c.words, m, ok, c.want)
		}
		if back, ok := impl.TrieOfMachine(c.want); !ok || !sameTrie(back, trie) {
			t.Errorf("TrieOfMachine(%v) = %v, %v", c.want, back, ok)
		}
	}
}

func TestPromise7MachinesAndTriesUndoEachOther(t *testing.T) {
	for _, set := range append(someSets(), machineSets()...) {
		m := mustMachine(t, set)
		if !impl.IsMachine(m) {
			t.Fatalf("IsMachine(%v) is false", m)
		}
		back, ok := impl.TrieOfMachine(m)
		if !ok || !sameTrie(back, plainTrie(set)) {
			t.Fatalf("TrieOfMachine(%v) = %v, %v", m, back, ok)
		}
		if again, ok := impl.MachineOf(back); !ok || !sameMachine(again, m) {
			t.Fatalf("MachineOf of TrieOfMachine(%v) = %v, %v", m, again, ok)
		}
	}
}

// checkEqualEnds checks HaveEqualEnds of two Nodes of a Trie whose States are told.
func checkEqualEnds(t *testing.T, trie impl.Trie, states []int, a, b int) {
	t.Helper()
	if got, ok := impl.HaveEqualEnds(trie, a, b); !ok || got != (states[a] == states[b]) {
		t.Fatalf("HaveEqualEnds(%v, %d, %d) = %v, %v", trie, a, b, got, ok)
	}
}

func TestPromise7NodesWithEqualEndsLeadToOneState(t *testing.T) {
	m := mixed(71)
	for _, set := range append(someSets(), machineSets()...) {
		trie, machine := plainTrie(set), mustMachine(t, set)
		prefixes, states := plainPrefixes(set), plainStates(set)
		for place, prefix := range prefixes {
			if got, ok := impl.StateOf(machine, prefix); !ok || got != states[place] {
				t.Fatalf("StateOf(%v, %q) = %d, %v", machine, prefix, got, ok)
			}
			checkEqualEnds(t, trie, states, place, m.below(len(prefixes)))
			checkEqualEnds(t, trie, states, slices.Index(states, states[place]), place)
		}
	}
}

func TestPromise7AllPairsOfNodes(t *testing.T) {
	for _, set := range append(subsetsOf(textsOver("ab", 2)), machineSets()...) {
		trie, states := plainTrie(set), plainStates(set)
		if len(states) > 60 {
			continue
		}
		for a := range states {
			for b := range states {
				checkEqualEnds(t, trie, states, a, b)
			}
		}
	}
	trie := mustTrie(t, []string{"ab", "cb", "d"})
	for _, c := range []struct {
		a, b int
		want bool
	}{
		{1, 3, true}, {3, 1, true}, {2, 4, true}, {2, 5, true}, {0, 0, true}, {3, 3, true}, {0, 1, false}, {1, 2, false}, {4, 3, false},
	} {
		if got, ok := impl.HaveEqualEnds(trie, c.a, c.b); !ok || got != c.want {
			t.Errorf("HaveEqualEnds(%d, %d) = %v, %v", c.a, c.b, got, ok)
		}
	}
	for _, set := range [][]string{nil, {""}} {
		if got, ok := impl.HaveEqualEnds(plainTrie(set), 0, 0); !ok || !got {
			t.Errorf("HaveEqualEnds of Node 0 of %q = %v, %v", set, got, ok)
		}
	}
}

func TestPromise7SavedNodesAndEdges(t *testing.T) {
	for _, c := range []struct {
		set          []string
		saved, edges int
		joining      []int
	}{
		{nil, 0, 0, nil}, {[]string{""}, 0, 0, nil}, {[]string{"a"}, 0, 1, nil}, {[]string{"", "a", "aa"}, 0, 2, nil},
		{[]string{"a", "b"}, 1, 2, []int{1}}, {[]string{"ab", "cb", "d"}, 3, 4, []int{1, 2}}, {[]string{"ab", "cd"}, 1, 4, []int{2}},
		{[]string{"ab", "ccb"}, 2, 4, []int{1}}, {[]string{"a", "ab", "b", "bb"}, 2, 3, []int{1}},
		{[]string{"ac", "b", "bc"}, 1, 4, []int{2}}, {chainWords(13), 0, 12, nil}, {fullRows("ab", 5), 57, 10, []int{1, 2, 3, 4, 5}},
		{strings.Split("abcdefghijklmnopqrstuvwxyz", ""), 25, 26, []int{1}}, {[]string{strings.Repeat("z", impl.MaxLetters)}, 0, 12, nil},
		{[]string{"card", "care", "cart", "cat"}, 3, 7, []int{4}},
	} {
		m := mustMachine(t, c.set)
		if got, ok := impl.SavedNodes(plainTrie(c.set)); !ok || got != c.saved {
			t.Errorf("SavedNodes(%q) = %d, %v", c.set, got, ok)
		}
		if got, ok := impl.CountEdges(m); !ok || got != c.edges {
			t.Errorf("CountEdges(%q) = %d, %v", c.set, got, ok)
		}
		if got, ok := impl.JoiningStates(m); !ok || !slices.Equal(got, c.joining) {
			t.Errorf("JoiningStates(%q) = %v, %v", c.set, got, ok)
		}
	}
}

func TestPromise7StatesAreAsFewAsCanBe(t *testing.T) {
	for _, set := range append(someSets(), machineSets()...) {
		m := mustMachine(t, set)
		ends, edges, to := map[string]bool{}, 0, map[int]int{}
		for _, prefix := range plainPrefixes(set) {
			ends[plainEnds(set, prefix)] = true
		}
		for _, state := range m.States {
			edges += len(state.Edges)
			for _, edge := range state.Edges {
				to[edge[1]]++
			}
		}
		joining := []int{}
		for state := range m.States {
			if to[state] > 1 {
				joining = append(joining, state)
			}
		}
		if got, ok := impl.SavedNodes(plainTrie(set)); !ok || got != len(plainPrefixes(set))-len(ends) || len(m.States) != len(ends) {
			t.Fatalf("SavedNodes(%q) = %d, %v: %d States of %d", set, got, ok, len(m.States), len(ends))
		}
		if got, ok := impl.CountEdges(m); !ok || got != edges {
			t.Fatalf("CountEdges(%v) = %d, %v", m, got, ok)
		}
		if got, ok := impl.JoiningStates(m); !ok || !slices.Equal(got, joining) {
			t.Fatalf("JoiningStates(%v) = %v, %v", m, got, ok)
		}
	}
}

func TestPromise7TheMostStates(t *testing.T) {
	set := fewShared(impl.MaxWords)
	m := mustMachine(t, set)
	if len(m.States) < 300 || !impl.IsMachine(m) {
		t.Fatalf("%d States, %v", len(m.States), impl.IsMachine(m))
	}
	if back, ok := impl.TrieOfMachine(m); !ok || !sameTrie(back, plainTrie(set)) {
		t.Errorf("TrieOfMachine of %d States: %v", len(m.States), ok)
	}
	// The words of one letter each have equal ends only in their last Nodes.
	most := []string{}
	for k := range 26 {
		most = append(most, strings.Repeat(string(rune('a'+k)), impl.MaxLetters))
	}
	if m := mustMachine(t, most); len(m.States) != 1+26*(impl.MaxLetters-1)+1 || !impl.IsMachine(m) {
		t.Errorf("%d States, %v", len(m.States), impl.IsMachine(m))
	}
}

func TestPromise7BehindStates(t *testing.T) {
	for _, set := range append(someSets(), machineSets()...) {
		m, states := mustMachine(t, set), plainStates(set)
		seen := map[string]int{}
		for place, prefix := range plainPrefixes(set) {
			state := states[place]
			if _, known := seen[plainEnds(set, prefix)]; known {
				continue
			}
			want := plainBehind(set, prefix)
			got, ok := impl.BehindState(m, state)
			if !ok || !slices.Equal(got, want) {
				t.Fatalf("BehindState(%v, %d) = %q, %v; want %q", m, state, got, ok, want)
			}
			// No two States have the same one.
			seen[fmt.Sprintf("%q", got)] = state
			level := 0
			for _, text := range want {
				level = max(level, len(text))
			}
			if got, ok := impl.LevelOf(m, state); !ok || got != level {
				t.Fatalf("LevelOf(%v, %d) = %d, %v", m, state, got, ok)
			}
		}
		if len(seen) != len(m.States) {
			t.Fatalf("%v: %d different ones of %d States", m, len(seen), len(m.States))
		}
		for _, state := range []int{-1, len(m.States), -2, len(m.States) + 1, math.MinInt, math.MaxInt, 1 << 32, -1 << 32} {
			checkNoState(t, "valid", m, state)
		}
	}
}

// checkNoState checks that the functions of a State fail.
func checkNoState(t *testing.T, why string, m impl.Machine, state int) {
	t.Helper()
	if got, ok := impl.BehindState(m, state); ok || len(got) != 0 {
		t.Errorf("%s: BehindState(%d) = %q, %v", why, state, got, ok)
	}
	if got, ok := impl.LevelOf(m, state); ok || got != 0 {
		t.Errorf("%s: LevelOf(%d) = %d, %v", why, state, got, ok)
	}
}

func TestPromise7LevelsAndTextsBehind(t *testing.T) {
	m := mustMachine(t, []string{"ab", "ccb", "d"})
	for state, want := range [][]string{{"ab", "ccb", "d"}, {"b"}, {""}, {"cb"}} {
		got, ok := impl.BehindState(m, state)
		level, fine := impl.LevelOf(m, state)
		if !ok || !slices.Equal(got, want) || !fine || level != []int{3, 1, 0, 2}[state] {
			t.Errorf("State %d: %q, %v, level %d, %v", state, got, ok, level, fine)
		}
	}
	for _, c := range []struct {
		set, behind []string
		level       int
	}{
		{nil, nil, 0}, {[]string{""}, []string{""}, 0}, {[]string{"", "a"}, []string{"", "a"}, 1}, {chainWords(13), chainWords(13), 12},
	} {
		machine := mustMachine(t, c.set)
		got, ok := impl.BehindState(machine, 0)
		level, fine := impl.LevelOf(machine, 0)
		if !ok || !slices.Equal(got, c.behind) || !fine || level != c.level {
			t.Errorf("%q: %q, %v, level %d, %v", c.set, got, ok, level, fine)
		}
	}
}

func TestPromise7TextsLeadToStates(t *testing.T) {
	for _, set := range append(someSets(), machineSets()...) {
		m := mustMachine(t, set)
		prefixes, states := plainPrefixes(set), plainStates(set)
		for _, w := range fewTexts(set) {
			if got, ok := impl.DoesTake(m, w); !ok || got != slices.Contains(set, w) {
				t.Fatalf("DoesTake(%v, %q) = %v, %v", m, w, got, ok)
			}
			want, place := 0, slices.Index(prefixes, w)
			if place >= 0 {
				want = states[place]
			}
			if got, ok := impl.StateOf(m, w); ok != (place >= 0) || got != want {
				t.Fatalf("StateOf(%v, %q) = %d, %v", m, w, got, ok)
			}
		}
		if got, ok := impl.StateOf(m, ""); !ok || got != 0 {
			t.Fatalf("StateOf(%v) of the empty text = %d, %v", m, got, ok)
		}
	}
}

func TestPromise7StateOf(t *testing.T) {
	m := mustMachine(t, []string{"ab", "ccb", "d"})
	for text, want := range map[string]int{"": 0, "a": 1, "ab": 2, "c": 3, "cc": 1, "ccb": 2, "d": 2} {
		if got, ok := impl.StateOf(m, text); !ok || got != want {
			t.Errorf("StateOf(%q) = %d, %v", text, got, ok)
		}
		if got, ok := impl.DoesTake(m, text); !ok || got != (want == 2) {
			t.Errorf("DoesTake(%q) = %v, %v", text, got, ok)
		}
	}
	for _, text := range []string{"b", "aa", "abb", "ac", "cb", "ccbb", "ccc", "da", "z", fullRow("a")} {
		if got, ok := impl.StateOf(m, text); ok || got != 0 {
			t.Errorf("StateOf(%q) = %d, %v", text, got, ok)
		}
		if got, ok := impl.DoesTake(m, text); !ok || got {
			t.Errorf("DoesTake(%q) = %v, %v", text, got, ok)
		}
	}
	for _, c := range []struct {
		set  []string
		want bool
	}{{nil, false}, {[]string{""}, true}, {[]string{"a"}, false}, {[]string{"", "a"}, true}} {
		if got, ok := impl.DoesTake(mustMachine(t, c.set), ""); !ok || got != c.want {
			t.Errorf("DoesTake(%q) of the empty word = %v, %v", c.set, got, ok)
		}
	}
}

func TestPromise7NumbersAreRanks(t *testing.T) {
	for _, set := range append(someSets(), machineSets()...) {
		m, trie := mustMachine(t, set), plainTrie(set)
		for k, w := range set {
			number, ok := impl.NumberOf(m, w)
			rank, fine := impl.RankOf(trie, w)
			if !ok || !fine || number != k || rank != k {
				t.Fatalf("NumberOf(%v, %q) = %d, %v; RankOf is %d", m, w, number, ok, rank)
			}
			word, ok := impl.WordNumbered(m, k)
			same, fine := impl.WordAt(trie, k)
			if !ok || !fine || word != w || same != w {
				t.Fatalf("WordNumbered(%v, %d) = %q, %v; WordAt is %q", m, k, word, ok, same)
			}
		}
		for _, w := range fewTexts(set) {
			if slices.Contains(set, w) {
				continue
			}
			if got, ok := impl.NumberOf(m, w); ok || got != 0 {
				t.Fatalf("NumberOf(%v, %q) = %d, %v", m, w, got, ok)
			}
		}
		for _, k := range []int{-1, len(set), -2, len(set) + 1, math.MinInt, math.MaxInt, 1 << 32, -1 << 32} {
			if got, ok := impl.WordNumbered(m, k); ok || got != "" {
				t.Fatalf("WordNumbered(%v, %d) = %q, %v", m, k, got, ok)
			}
		}
	}
}

// smallState is a State with at most two Edges, as one value.
type smallState struct {
	isThere, end bool
	count        int
	edges        [2][2]int
}

func smallForm(m impl.Machine) [3]smallState {
	form := [3]smallState{}
	for i, state := range m.States {
		form[i] = smallState{isThere: true, end: state.End, count: len(state.Edges)}
		copy(form[i].edges[:], state.Edges)
	}
	return form
}

func TestPromise7IsMachineOfAllSmallOnes(t *testing.T) {
	forms := map[[3]smallState]bool{}
	// Of three States, no ring being among them, no text has more than two letters. Of those at the
	// third place only the States with no more than one Edge are tried.
	for _, set := range subsetsOf(textsOver("ab", 2)) {
		if m := plainMachine(set); len(m.States) < 3 || len(m.States) == 3 && len(m.States[2].Edges) < 2 {
			forms[smallForm(m)] = true
		}
	}
	edges := [][2]int{{0, 0}, {0, 1}, {0, 2}, {1, 0}, {1, 1}, {1, 2}}
	choices := []impl.State{stateWith(false), stateWith(true)}
	for _, one := range edges {
		choices = append(choices, stateWith(false, one), stateWith(true, one))
		for _, two := range edges {
			choices = append(choices, stateWith(false, one, two), stateWith(true, one, two))
		}
	}
	found := 0
	var try func(states []impl.State)
	try = func(states []impl.State) {
		m := impl.Machine{States: states}
		want := forms[smallForm(m)]
		if got := impl.IsMachine(m); got != want {
			t.Fatalf("IsMachine(%v) is %v", m, got)
		}
		if want {
			found++
		}
		if len(states) == 3 {
			return
		}
		for _, state := range choices {
			if len(states) < 2 || len(state.Edges) < 2 {
				try(append(states[:len(states):len(states)], state))
			}
		}
	}
	try(nil)
	if found != len(forms) || found < 20 {
		t.Errorf("%d of %d Machines found", found, len(forms))
	}
}

func TestPromise7IsMachine(t *testing.T) {
	for _, set := range append(someSets(), machineSets()...) {
		if !impl.IsMachine(plainMachine(set)) {
			t.Errorf("IsMachine of %q is false", set)
		}
	}
	for why, bad := range badMachines() {
		if impl.IsMachine(bad) {
			t.Errorf("IsMachine is true: %s", why)
		}
	}
	// The same forms at the last of what is valid.
	for _, good := range []impl.Machine{
		rowMachine(impl.MaxLetters+1, 1), rowMachine(3, 6), rowMachine(6, 2), rowMachine(2, 26), rowMachine(1, 0), machineWith(stateWith(false)),
		plainMachine(manyWords(impl.MaxWords)), {States: []impl.State{{End: true, Edges: [][2]int{}}}},
	} {
		if !impl.IsMachine(good) {
			t.Errorf("IsMachine(%v) is false", good)
		}
	}
}

// changesOf returns Machines that come of one by a change of one part, valid or not.
func changesOf(m impl.Machine) []impl.Machine {
	list := []impl.Machine{}
	change := func(f func(m *impl.Machine)) {
		one := copyMachine(m)
		f(&one)
		list = append(list, one)
	}
	n := len(m.States)
	for place, state := range m.States {
		change(func(m *impl.Machine) { m.States[place].End = !state.End })
		change(func(m *impl.Machine) { m.States = slices.Delete(m.States, place, place+1) })
		change(func(m *impl.Machine) { m.States = slices.Insert(m.States, place, state) })
		change(func(m *impl.Machine) { m.States = append(m.States, state) })
		change(func(m *impl.Machine) { m.States[place].Edges = nil })
		change(func(m *impl.Machine) { slices.Reverse(m.States[place].Edges) })
		list = append(list, swapped(m, place, (place+1)%n), swapped(m, 0, place), swapped(m, n-1, place))
		for to := -1; to <= n; to++ {
			change(func(m *impl.Machine) {
				m.States[place].Edges = append(m.States[place].Edges, [2]int{25, to})
			})
		}
		for i, edge := range state.Edges {
			change(func(m *impl.Machine) { m.States[place].Edges = slices.Delete(m.States[place].Edges, i, i+1) })
			change(func(m *impl.Machine) { m.States[place].Edges = slices.Insert(m.States[place].Edges, i, edge) })
			for letter := -1; letter <= 26; letter += 3 {
				change(func(m *impl.Machine) { m.States[place].Edges[i][0] = letter })
			}
			change(func(m *impl.Machine) { m.States[place].Edges[i][0]++ })
			for to := -1; to <= n; to++ {
				change(func(m *impl.Machine) { m.States[place].Edges[i][1] = to })
			}
		}
	}
	return list
}

func TestPromise7IsMachineOfChangedOnes(t *testing.T) {
	for _, set := range machineSets() {
		if len(set) > 12 {
			set = set[:5]
		}
		valid := 0
		for _, one := range changesOf(plainMachine(set)) {
			want := isPlainMachine(one)
			trie, ok := impl.TrieOfMachine(one)
			if impl.IsMachine(one) != want || ok != want || ok != impl.IsTrie(trie) {
				t.Fatalf("%v: IsMachine is %v, TrieOfMachine is %v, %v", one, !want, trie, ok)
			}
			if !ok {
				continue
			}
			valid++
			if again, ok := impl.MachineOf(trie); !ok || !sameMachine(again, one) {
				t.Fatalf("MachineOf of TrieOfMachine(%v) = %v, %v", one, again, ok)
			}
		}
		if valid == 0 {
			t.Errorf("%q: no change of its Machine is valid", set)
		}
	}
}

// checkNoMachine checks that each function fails for a Machine with a word and a number.
func checkNoMachine(t *testing.T, why string, m impl.Machine, w string, k int) {
	t.Helper()
	if trie, ok := impl.TrieOfMachine(m); ok || len(trie.Nodes) != 0 {
		t.Errorf("%s: TrieOfMachine = %v, %v", why, trie, ok)
	}
	if n, ok := impl.CountEdges(m); ok || n != 0 {
		t.Errorf("%s: CountEdges = %d, %v", why, n, ok)
	}
	if list, ok := impl.JoiningStates(m); ok || len(list) != 0 {
		t.Errorf("%s: JoiningStates = %v, %v", why, list, ok)
	}
	if word, ok := impl.WordNumbered(m, k); ok || word != "" {
		t.Errorf("%s: WordNumbered(%d) = %q, %v", why, k, word, ok)
	}
	checkNoState(t, why, m, k)
	checkNoMachineWord(t, why, m, w)
}

// checkNoMachineWord checks that the functions of a word fail.
func checkNoMachineWord(t *testing.T, why string, m impl.Machine, w string) {
	t.Helper()
	if got, ok := impl.DoesTake(m, w); ok || got {
		t.Errorf("%s: DoesTake(%.20q) = %v, %v", why, w, got, ok)
	}
	for i, f := range []func(impl.Machine, string) (int, bool){impl.StateOf, impl.NumberOf} {
		if got, ok := f(m, w); ok || got != 0 {
			t.Errorf("%s: number %d of %.20q = %d, %v", why, i, w, got, ok)
		}
	}
}

func TestPromise7InvalidMachinesFail(t *testing.T) {
	for why, bad := range badMachines() {
		for _, w := range []string{"", "a", "ab", "abc", "d", "A", fullRow("a")} {
			checkNoMachine(t, why, bad, w, len(w)-1)
		}
	}
}

func TestPromise7InvalidTriesAndNodesFail(t *testing.T) {
	tries := badTries()
	for why, bad := range tries {
		if m, ok := impl.MachineOf(bad); ok || len(m.States) != 0 {
			t.Errorf("%s: MachineOf = %v, %v", why, m, ok)
		}
		if n, ok := impl.SavedNodes(bad); ok || n != 0 {
			t.Errorf("%s: SavedNodes = %d, %v", why, n, ok)
		}
		for a := -1; a < 3; a++ {
			for b := -1; b < 3; b++ {
				if got, ok := impl.HaveEqualEnds(bad, a, b); ok || got {
					t.Errorf("%s: HaveEqualEnds(%d, %d) = %v, %v", why, a, b, got, ok)
				}
			}
		}
	}
	for _, set := range machineSets() {
		trie := plainTrie(set)
		n := len(trie.Nodes)
		for _, outside := range []int{-1, n, -2, n + 1, math.MinInt, math.MaxInt, 1 << 32, -1 << 32} {
			for _, other := range []int{0, n - 1, outside} {
				for _, pair := range [][2]int{{outside, other}, {other, outside}} {
					if got, ok := impl.HaveEqualEnds(trie, pair[0], pair[1]); ok || got {
						t.Errorf("HaveEqualEnds(%q, %d, %d) = %v, %v", set, pair[0], pair[1], got, ok)
					}
				}
			}
		}
	}
}

func TestPromise7TextsThatAreNoWordsFail(t *testing.T) {
	for _, set := range machineSets() {
		m := mustMachine(t, set)
		for _, w := range append([]string{fullRow("a") + "a", fullRow("z") + "z"}, notWords...) {
			checkNoMachineWord(t, "valid", m, w)
		}
	}
}

// machineAnswer is a result of any function of chapter 7.
type machineAnswer struct {
	answer
	machine impl.Machine
}

func sameMachineAnswer(a, b machineAnswer) bool {
	return sameAnswer(a.answer, b.answer) && sameMachine(a.machine, b.machine)
}

// machineAnswersOf calls all functions of a Machine, those of a text or a number with each of them.
func machineAnswersOf(m impl.Machine, texts []string, numbers []int) []machineAnswer {
	all := []machineAnswer{}
	add := func(a answer) { all = append(all, machineAnswer{answer: a}) }
	add(answer{ok: impl.IsMachine(m)})
	trie, ok := impl.TrieOfMachine(m)
	add(answer{ok: ok, trie: trie})
	edges, ok := impl.CountEdges(m)
	add(answer{ok: ok, number: edges})
	joining, ok := impl.JoiningStates(m)
	add(answer{ok: ok, places: joining})
	for _, text := range texts {
		for _, f := range []func(impl.Machine, string) (int, bool){impl.StateOf, impl.NumberOf} {
			n, ok := f(m, text)
			add(answer{ok: ok, number: n})
		}
		takes, ok := impl.DoesTake(m, text)
		add(answer{ok: ok})
		add(answer{ok: takes})
	}
	for _, n := range numbers {
		behind, ok := impl.BehindState(m, n)
		add(answer{ok: ok, list: behind})
		word, ok := impl.WordNumbered(m, n)
		add(answer{ok: ok, text: word})
		level, ok := impl.LevelOf(m, n)
		add(answer{ok: ok, number: level})
	}
	return all
}

// endsAnswersOf calls all functions of chapter 7 that take a Trie.
func endsAnswersOf(trie impl.Trie, numbers []int) []machineAnswer {
	m, ok := impl.MachineOf(trie)
	saved, fine := impl.SavedNodes(trie)
	all := []machineAnswer{{answer: answer{ok: ok}, machine: m}, {answer: answer{ok: fine, number: saved}}}
	for _, a := range numbers {
		for _, b := range numbers {
			equal, ok := impl.HaveEqualEnds(trie, a, b)
			all = append(all, machineAnswer{answer: answer{ok: ok}}, machineAnswer{answer: answer{ok: equal}})
		}
	}
	return all
}

func TestPromise13MachinesReturnForAllArguments(t *testing.T) {
	machines, tries := badMachines(), badTries()
	for _, set := range edgeSets() {
		name := "of " + strings.Join(set, " ")
		machines[name], tries[name] = plainMachine(set), plainTrie(set)
	}
	texts := append(edgeWords(), notWords...)
	numbers := []int{math.MinInt, math.MinInt + 1, -1 << 32, -2, -1, 0, 1, 2, 12, 39, 40, 480, 481, 1 << 32, math.MaxInt}
	for name, m := range machines {
		before := copyMachine(m)
		first := machineAnswersOf(m, texts, numbers)
		if again := machineAnswersOf(m, texts, numbers); !slices.EqualFunc(first, again, sameMachineAnswer) {
			t.Errorf("%.20q: other results for the same arguments", name)
		}
		if !sameMachine(m, before) {
			t.Errorf("%.20q: the Machine is modified", name)
		}
	}
	for name, trie := range tries {
		before := copyTrie(trie)
		first := endsAnswersOf(trie, numbers)
		if again := endsAnswersOf(trie, numbers); !slices.EqualFunc(first, again, sameMachineAnswer) {
			t.Errorf("%.20q: other results for the same arguments", name)
		}
		if !sameTrie(trie, before) {
			t.Errorf("%.20q: the Trie is modified", name)
		}
	}
}

func TestPromise13MachinesAreLeftAsTheyWere(t *testing.T) {
	for _, set := range machineSets() {
		// Room behind the States, the Edges and the Nodes of an argument belongs to the caller.
		full := impl.Machine{States: append(plainMachine(set).States, stateWith(true, [2]int{7, 7}), stateWith(false))}
		for i, state := range full.States {
			full.States[i].Edges = append(slices.Clone(state.Edges), [2]int{8, 8}, [2]int{9, 9})
		}
		before := copyMachine(full)
		m := impl.Machine{States: slices.Clone(full.States)}
		for i, state := range m.States {
			m.States[i].Edges = state.Edges[:len(state.Edges)-2]
		}
		room := slices.Clone(m.States)
		m.States = m.States[:len(m.States)-2]
		machineAnswersOf(m, append([]string{"", "a", "ab", "zzz", "A"}, set...), []int{-1, 0, 1, 2, 500})
		if !sameMachine(full, before) || !slices.EqualFunc(m.States[:len(room)], room, sameState) {
			t.Fatalf("a function modified the Machine of %q", set)
		}
		nodes := append(plainTrie(set).Nodes, nodeWith(5, 5, true), nodeWith(6, 6, true))
		kept := slices.Clone(nodes)
		endsAnswersOf(impl.Trie{Nodes: nodes[:len(nodes)-2]}, []int{-1, 0, 1, 2})
		if !slices.Equal(nodes, kept) {
			t.Fatalf("a function modified the Trie of %q", set)
		}
	}
}

func TestPromise13MachineResultsShareNothing(t *testing.T) {
	for _, set := range machineSets() {
		m, trie := plainMachine(set), plainTrie(set)
		texts := append([]string{"", "a", "ab", "zz"}, set[:min(5, len(set))]...)
		all := func() []machineAnswer {
			return append(machineAnswersOf(m, texts, []int{0, 1}), endsAnswersOf(trie, []int{0, 1})...)
		}
		want := all()
		for _, a := range all() {
			spoil(a.list, "spoilt")
			spoil(a.places, 99)
			spoil(a.trie.Nodes, nodeWith(9, 9, false))
			for _, state := range a.machine.States {
				spoil(state.Edges, [2]int{99, 99})
			}
			spoil(a.machine.States, stateWith(false, [2]int{98, 98}))
		}
		if !slices.EqualFunc(all(), want, sameMachineAnswer) || !sameMachine(m, plainMachine(set)) || !sameTrie(trie, plainTrie(set)) {
			t.Fatalf("%q: a changed result changes another one, or the argument", set)
		}
	}
}

// TestPromise13EdgesShareNothing overwrites the Edges of one State after the other: those of the
// others stay as they were.
func TestPromise13EdgesShareNothing(t *testing.T) {
	for _, set := range machineSets() {
		m := mustMachine(t, set)
		want := copyMachine(m)
		for place, state := range m.States {
			spoil(state.Edges, [2]int{99, 99})
			want.States[place].Edges = slices.Repeat([][2]int{{99, 99}}, len(state.Edges))
			if !sameMachine(m, want) {
				t.Fatalf("%q: the Edges of State %d are those of another one, too", set, place)
			}
		}
	}
}
