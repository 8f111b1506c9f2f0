package tests

import (
	"maps"
	"math"
	"slices"
	"sort"
	"strings"
	"testing"

	"loop.example/g01243/impl"
)

// sortedSet returns the different ones of some words, in ascending order.
func sortedSet(words []string) []string {
	set := map[string]bool{}
	for _, w := range words {
		set[w] = true
	}
	return slices.Sorted(maps.Keys(set))
}

// plainTrie returns the Trie of some words, as the document describes it: all of their beginnings
// in order, each of them with the place of the one that is a letter shorter. It keeps no limits.
func plainTrie(words []string) impl.Trie {
	isWord := map[string]bool{}
	for _, w := range words {
		isWord[w] = true
	}
	nodes := []impl.Node{}
	places := map[string]int{}
	for place, b := range plainPrefixes(words) {
		places[b] = place
		node := impl.Node{Letter: -1, Parent: -1, End: isWord[b]}
		if b != "" {
			node.Letter = int(b[len(b)-1]) - 'a'
			node.Parent = places[b[:len(b)-1]]
		}
		nodes = append(nodes, node)
	}
	return impl.Trie{Nodes: nodes}
}

// plainPrefixes returns the beginnings of some words, in the order of their Nodes.
func plainPrefixes(words []string) []string {
	beginnings := []string{""}
	for _, w := range words {
		for n := range w {
			beginnings = append(beginnings, w[:n+1])
		}
	}
	return sortedSet(beginnings)
}

// plainText writes the text of the Node with a prefix out of the words.
func plainText(words []string, prefix string) string {
	text := ""
	if prefix != "" {
		text = prefix[len(prefix)-1:]
	}
	if slices.Contains(words, prefix) {
		text += "."
	}
	kids := ""
	for c := 'a'; c <= 'z'; c++ {
		kid := prefix + string(c)
		if countBeginning(words, kid) > 0 {
			kids += plainText(words, kid)
		}
	}
	if kids != "" {
		text += "(" + kids + ")"
	}
	return text
}

func countBeginning(words []string, prefix string) int {
	n := 0
	for _, w := range words {
		if strings.HasPrefix(w, prefix) {
			n++
		}
	}
	return n
}

func nodeWith(letter, parent int, end bool) impl.Node {
	return impl.Node{Letter: letter, Parent: parent, End: end}
}

func sameTrie(a, b impl.Trie) bool {
	return slices.Equal(a.Nodes, b.Nodes)
}

func copyTrie(t impl.Trie) impl.Trie {
	return impl.Trie{Nodes: slices.Clone(t.Nodes)}
}

// mixed is a plain series of numbers, always the same ones, for inputs of no special form.
type mixed uint32

func (m *mixed) below(n int) int {
	*m = *m*1664525 + 1013904223
	return int(*m>>8) % n
}

// mixedWords returns up to n different words of the first letters, of up to size letters.
func mixedWords(m *mixed, n, letters, size int) []string {
	words := []string{}
	for range n {
		w := ""
		for range m.below(size + 1) {
			w += string(rune('a' + m.below(letters)))
		}
		words = append(words, w)
	}
	return sortedSet(words)
}

// manyWords returns n different words of twelve letters that share as little as can be.
func manyWords(n int) []string {
	words := []string{}
	for k := range n {
		first := string(rune('a' + k%26))
		second := string(rune('a' + k/26))
		words = append(words, first+second+strings.Repeat("m", impl.MaxLetters-2))
	}
	return sortedSet(words)
}

// chainWords returns the n shortest words of the letter a, the empty one among them.
func chainWords(n int) []string {
	words := []string{}
	for k := range n {
		words = append(words, strings.Repeat("a", k))
	}
	return words
}

// edgeSets returns sets of words at the edges of what a Trie can keep, each in ascending order.
func edgeSets() [][]string {
	return [][]string{
		{}, {""}, {"a"}, {"z"}, {"", "a"}, {"", "z"}, {"a", "ab"}, {"ab", "abc", "b"}, {"a", "z"},
		{"", "a", "ab", "abc", "abcd"}, {"abcdefghijkl"}, {"", "abcdefghijkl", "abcdefghijkm"},
		{"zzzzzzzzzzzz"}, {"card", "care", "cart", "cat", "dog", "door"}, {"aa", "ab", "ba", "bb"},
		strings.Split("abcdefghijklmnopqrstuvwxyz", ""),
		chainWords(13), chainWords(12)[1:], manyWords(impl.MaxWords), manyWords(impl.MaxWords - 1),
		manyWords(26), append([]string{""}, manyWords(impl.MaxWords-1)...),
	}
}

// subsetsOf returns all sets of some words, each in ascending order.
func subsetsOf(words []string) [][]string {
	sets := [][]string{}
	for bits := range 1 << len(words) {
		set := []string{}
		for i, w := range words {
			if bits>>i&1 == 1 {
				set = append(set, w)
			}
		}
		sets = append(sets, sortedSet(set))
	}
	return sets
}

// someSets returns the edges, all sets of short words of two letters, and mixed sets.
func someSets() [][]string {
	sets := append(edgeSets(), subsetsOf(textsOver("ab", 2))...)
	m := mixed(7)
	for n := range 120 {
		sets = append(sets, mixedWords(&m, n%(impl.MaxWords+1), 1+n%5, 1+n%impl.MaxLetters))
	}
	return sets
}

// mustTrie returns the Trie of a set of words, which has to be the plain one.
func mustTrie(t *testing.T, set []string) impl.Trie {
	t.Helper()
	trie, ok := impl.TrieOf(set)
	if !ok || !sameTrie(trie, plainTrie(set)) {
		t.Fatalf("TrieOf(%q) = %v, %v", set, trie, ok)
	}
	return trie
}

// badTries returns Tries that are not valid, by what is wrong with them.
func badTries() map[string]impl.Trie {
	good := plainTrie([]string{"ab", "abc", "b"})
	bad := map[string]impl.Trie{
		"no Nodes":              {},
		"an empty list":         {Nodes: []impl.Node{}},
		"a word too many":       plainTrie(manyWords(impl.MaxWords + 1)),
		"the empty one too":     plainTrie(append([]string{""}, manyWords(impl.MaxWords)...)),
		"a word too long":       plainTrie([]string{strings.Repeat("a", impl.MaxLetters+1)}),
		"words too long":        plainTrie([]string{"b", strings.Repeat("z", impl.MaxLetters+1)}),
		"a letter before a":     plainTrie([]string{"`"}),
		"a letter behind z":     plainTrie([]string{"{"}),
		"many Nodes":            {Nodes: make([]impl.Node, 1000000)},
		"many words of a row":   plainTrie(chainWords(200)),
		"Nodes of no words":     {Nodes: make([]impl.Node, 3)},
		"Node 0 twice":          {Nodes: []impl.Node{nodeWith(-1, -1, true), nodeWith(-1, -1, true)}},
		"kids not in order":     {Nodes: []impl.Node{nodeWith(-1, -1, false), nodeWith(1, 0, true), nodeWith(0, 0, true)}},
		"a kid twice":           {Nodes: []impl.Node{nodeWith(-1, -1, false), nodeWith(1, 0, true), nodeWith(1, 0, true)}},
		"Nodes by their depths": {Nodes: []impl.Node{nodeWith(-1, -1, false), nodeWith(0, 0, false), nodeWith(1, 0, true), nodeWith(0, 1, true)}},
		"a way back":            {Nodes: []impl.Node{nodeWith(-1, -1, true), nodeWith(0, 2, true), nodeWith(0, 1, true)}},
	}
	change := func(name string, place int, to impl.Node) {
		wrong := copyTrie(good)
		wrong.Nodes[place] = to
		bad[name] = wrong
	}
	last := len(good.Nodes) - 1
	change("Node 0 with a Letter", 0, impl.Node{Letter: 0, Parent: -1})
	change("Node 0 with a lesser Letter", 0, impl.Node{Letter: -2, Parent: -1})
	change("Node 0 with a Parent", 0, impl.Node{Letter: -1, Parent: 0})
	change("Node 0 with a lesser Parent", 0, impl.Node{Letter: -1, Parent: -2})
	change("a Letter too great", last, impl.Node{Letter: 26, Parent: 0, End: true})
	change("a Letter too small", 1, impl.Node{Letter: -1, Parent: 0, End: false})
	change("the greatest Letter", last, impl.Node{Letter: math.MaxInt, Parent: 0, End: true})
	change("the least Letter", last, impl.Node{Letter: math.MinInt, Parent: 0, End: true})
	change("a Parent of itself", last, impl.Node{Letter: 1, Parent: last, End: true})
	change("a Parent behind", 1, impl.Node{Letter: 0, Parent: 2, End: false})
	change("a Parent that is none", last, impl.Node{Letter: 1, Parent: -1, End: true})
	change("a lesser Parent", last, impl.Node{Letter: 1, Parent: -2, End: true})
	change("a Parent outside", last, impl.Node{Letter: 1, Parent: last + 1, End: true})
	change("the greatest Parent", last, impl.Node{Letter: 1, Parent: math.MaxInt, End: true})
	change("the least Parent", 1, impl.Node{Letter: 0, Parent: math.MinInt, End: false})
	change("the same letter again", last, impl.Node{Letter: 0, Parent: 0, End: true})
	change("no word below", last, impl.Node{Letter: 1, Parent: 0, End: false})
	change("no word at the end of a way", 3, impl.Node{Letter: 2, Parent: 2, End: false})
	return bad
}

// notWords are texts that are no words.
var notWords = []string{
	"A", "Z", "aB", "a b", " ", "a.", "-", "0", "`", "{", "a`", "{a", "\x00", "a\x00", "\n", "\xff", "a\xe0",
	"\u00e9", "\u0430", "\uff41", "\u017f", strings.Repeat("a", impl.MaxLetters+1),
	strings.Repeat("a", 256+1), strings.Repeat("z", 100000), strings.Repeat("a", impl.MaxLetters-1) + "\u00e9",
}

func TestPromise2IsWord(t *testing.T) {
	for _, w := range append(textsOver("abmyz", 4), "abcdefghijkl", "mnopqrstuvwx", "zzzzzzzzzzzz", "yz") {
		if !impl.IsWord(w) {
			t.Errorf("IsWord(%q) is false", w)
		}
	}
	for _, w := range notWords {
		if impl.IsWord(w) {
			t.Errorf("IsWord(%.20q) is true", w)
		}
	}
	for c := range 256 {
		isLetter := c >= 'a' && c <= 'z'
		for _, w := range []string{"\x01", "\x01a", "a\x01", "abcdefghijk\x01"} {
			w = strings.Replace(w, "\x01", string([]byte{byte(c)}), 1)
			if impl.IsWord(w) != isLetter {
				t.Errorf("IsWord(%q) is %v", w, !isLetter)
			}
		}
	}
	for n := range 30 {
		if got := impl.IsWord(strings.Repeat("a", n)); got != (n <= impl.MaxLetters) {
			t.Errorf("IsWord of %d letters is %v", n, got)
		}
	}
}

func TestPromise2TrieOf(t *testing.T) {
	want := []impl.Node{nodeWith(-1, -1, false), nodeWith(0, 0, false), nodeWith(1, 1, true), nodeWith(2, 2, true), nodeWith(1, 0, true)}
	if got, ok := impl.TrieOf([]string{"b", "ab", "abc", "ab"}); !ok || !slices.Equal(got.Nodes, want) {
		t.Errorf("TrieOf = %v, %v", got, ok)
	}
	for _, none := range [][]string{nil, {}} {
		if got, ok := impl.TrieOf(none); !ok || !slices.Equal(got.Nodes, []impl.Node{nodeWith(-1, -1, false)}) {
			t.Errorf("TrieOf of no words = %v, %v", got, ok)
		}
	}
	if got, ok := impl.TrieOf([]string{"", ""}); !ok || !slices.Equal(got.Nodes, []impl.Node{nodeWith(-1, -1, true)}) {
		t.Errorf("TrieOf of the empty word = %v, %v", got, ok)
	}
}

func TestPromise2TrieOfAnyOrder(t *testing.T) {
	m := mixed(11)
	for _, set := range someSets() {
		want := mustTrie(t, set)
		list := slices.Concat(set, set)
		for range 3 {
			for i := range list {
				j := m.below(i + 1)
				list[i], list[j] = list[j], list[i]
			}
			if got, ok := impl.TrieOf(list); !ok || !sameTrie(got, want) {
				t.Fatalf("TrieOf(%q) = %v, %v", list, got, ok)
			}
		}
	}
}

func TestPromise2TrieOfRefuses(t *testing.T) {
	refused := map[string][]string{
		"a word too many":         manyWords(impl.MaxWords + 1),
		"the empty one too many":  append(manyWords(impl.MaxWords), ""),
		"many words":              textsOver("abc", 6),
		"a word too many, doubly": slices.Concat(manyWords(impl.MaxWords+1), manyWords(impl.MaxWords+1)),
	}
	for _, w := range notWords {
		refused["alone "+w] = []string{w}
		refused["behind "+w] = []string{"a", "b", w}
		refused["first "+w] = []string{w, "", "b"}
	}
	for name, list := range refused {
		if got, ok := impl.TrieOf(list); ok || len(got.Nodes) != 0 {
			t.Errorf("TrieOf of %.20q = %v, %v", name, got, ok)
		}
	}
	full := manyWords(impl.MaxWords)
	again := []string{}
	for range 1000 {
		again = append(again, full...)
	}
	if got, ok := impl.TrieOf(again); !ok || !sameTrie(got, plainTrie(full)) {
		t.Errorf("TrieOf of %d words, of which %d are different, is %v", len(again), len(full), ok)
	}
}

func TestPromise2WordsOfATrie(t *testing.T) {
	for _, set := range someSets() {
		trie := mustTrie(t, set)
		words, ok := impl.WordsOf(trie)
		if !ok || !slices.Equal(words, set) {
			t.Fatalf("WordsOf of %q = %q, %v", set, words, ok)
		}
		if n, ok := impl.CountWords(trie); !ok || n != len(set) {
			t.Fatalf("CountWords of %q = %d, %v", set, n, ok)
		}
		if again, ok := impl.TrieOf(words); !ok || !sameTrie(again, trie) {
			t.Fatalf("TrieOf(WordsOf) of %q = %v, %v", set, again, ok)
		}
	}
}

// validForms returns the Nodes of all Tries of at most four Nodes of the letters a and b.
func validForms() map[[4]impl.Node]bool {
	forms := map[[4]impl.Node]bool{}
	for _, set := range subsetsOf(textsOver("ab", 3)) {
		if len(set) > 4 {
			continue
		}
		if nodes := plainTrie(set).Nodes; len(nodes) <= 4 {
			forms[formOf(nodes)] = true
		}
	}
	return forms
}

// formOf returns some Nodes as one value; the places behind them have a Node that is never valid.
func formOf(nodes []impl.Node) [4]impl.Node {
	form := [4]impl.Node{}
	for i := range form {
		form[i].Letter = -9
	}
	copy(form[:], nodes)
	return form
}

func TestPromise2IsTrieOfAllSmallOnes(t *testing.T) {
	forms := validForms()
	choices := []impl.Node{}
	for letter := -1; letter <= 1; letter++ {
		for parent := -1; parent <= 2; parent++ {
			choices = append(choices, nodeWith(letter, parent, false), nodeWith(letter, parent, true))
		}
	}
	found := 0
	var try func(nodes []impl.Node)
	try = func(nodes []impl.Node) {
		want := forms[formOf(nodes)]
		if got := impl.IsTrie(impl.Trie{Nodes: nodes}); got != want {
			t.Fatalf("IsTrie(%v) is %v", nodes, got)
		}
		if want {
			found++
		}
		if len(nodes) == 4 {
			return
		}
		for _, node := range choices {
			try(append(nodes[:len(nodes):len(nodes)], node))
		}
	}
	try(nil)
	if found != len(forms) || found < 20 {
		t.Errorf("%d of %d Tries found", found, len(forms))
	}
}

func TestPromise2IsTrie(t *testing.T) {
	for _, set := range someSets() {
		if !impl.IsTrie(plainTrie(set)) {
			t.Errorf("IsTrie of %q is false", set)
		}
	}
	for name, bad := range badTries() {
		if impl.IsTrie(bad) {
			t.Errorf("IsTrie is true: %s", name)
		}
	}
}

// TestPromise2IsTrieOfChangedOnes changes one number of one Node of a Trie: what is valid then has
// the same form as the Trie of its words.
func TestPromise2IsTrieOfChangedOnes(t *testing.T) {
	for _, set := range edgeSets() {
		if len(set) > 20 {
			set = set[:4]
		}
		trie := plainTrie(set)
		for place := range trie.Nodes {
			for to := -2; to <= 27; to++ {
				for _, node := range []impl.Node{
					nodeWith(to, trie.Nodes[place].Parent, trie.Nodes[place].End),
					nodeWith(trie.Nodes[place].Letter, place-to, trie.Nodes[place].End),
					nodeWith(trie.Nodes[place].Letter, trie.Nodes[place].Parent, to%2 == 0),
				} {
					changed := copyTrie(trie)
					changed.Nodes[place] = node
					if got, want := impl.IsTrie(changed), isPlainTrie(changed); got != want {
						t.Fatalf("Node %d of %q as %v: IsTrie is %v", place, set, node, got)
					}
				}
			}
		}
	}
}

// isPlainTrie reads the words of Nodes whose Parents are before them, and holds the Nodes against
// the Trie of these words.
func isPlainTrie(t impl.Trie) bool {
	prefixes, words := []string{}, []string{}
	for place, node := range t.Nodes {
		prefix := ""
		if place > 0 {
			if node.Parent < 0 || node.Parent >= place || node.Letter < 0 || node.Letter > 25 {
				return false
			}
			prefix = prefixes[node.Parent] + string(rune('a'+node.Letter))
		}
		prefixes = append(prefixes, prefix)
		if node.End {
			words = append(words, prefix)
		}
		if len(prefix) > impl.MaxLetters || len(words) > impl.MaxWords {
			return false
		}
	}
	return sameTrie(t, plainTrie(words))
}

func TestPromise2WordsAndNodes(t *testing.T) {
	for _, set := range someSets() {
		trie := mustTrie(t, set)
		prefixes := plainPrefixes(set)
		for place, prefix := range prefixes {
			if got, ok := impl.PrefixOf(trie, place); !ok || got != prefix {
				t.Fatalf("PrefixOf(%q, %d) = %q, %v", set, place, got, ok)
			}
			if got, ok := impl.NodeOf(trie, prefix); !ok || got != place {
				t.Fatalf("NodeOf(%q, %q) = %d, %v", set, prefix, got, ok)
			}
			under := countBeginning(set, prefix)
			if got, ok := impl.CountUnder(trie, place); !ok || got != under || place > 0 && got < 1 {
				t.Fatalf("CountUnder(%q, %d) = %d, %v", set, place, got, ok)
			}
			kids := []int{}
			for other, node := range trie.Nodes {
				if node.Parent == place {
					kids = append(kids, other)
				}
			}
			if got, ok := impl.KidsOf(trie, place); !ok || !slices.Equal(got, kids) {
				t.Fatalf("KidsOf(%q, %d) = %v, %v", set, place, got, ok)
			}
		}
		for _, outside := range []int{-1, len(prefixes), -2, len(prefixes) + 1, math.MinInt, math.MaxInt, 1 << 32, -1 << 32} {
			checkNoNode(t, trie, outside)
		}
	}
}

// checkNoNode checks that the functions of a Node fail.
func checkNoNode(t *testing.T, trie impl.Trie, node int) {
	t.Helper()
	if got, ok := impl.PrefixOf(trie, node); ok || got != "" {
		t.Errorf("PrefixOf(%v, %d) = %q, %v", trie, node, got, ok)
	}
	if got, ok := impl.KidsOf(trie, node); ok || len(got) != 0 {
		t.Errorf("KidsOf(%v, %d) = %v, %v", trie, node, got, ok)
	}
	if got, ok := impl.CountUnder(trie, node); ok || got != 0 {
		t.Errorf("CountUnder(%v, %d) = %d, %v", trie, node, got, ok)
	}
}

// nearTexts returns words of a set, their beginnings, and others close to them.
func nearTexts(set []string) []string {
	near := append(textsOver("abz", 2), "m", strings.Repeat("a", impl.MaxLetters), strings.Repeat("z", impl.MaxLetters))
	for _, w := range plainPrefixes(set) {
		near = append(near, w)
		if len(w) < impl.MaxLetters {
			near = append(near, w+"a", w+"c", w+"z")
		}
		if w != "" {
			near = append(near, w[1:], w[:len(w)-1]+"a", w[:len(w)-1]+"z")
		}
	}
	return sortedSet(near)
}

func TestPromise2HasWordAndNodeOf(t *testing.T) {
	for _, set := range someSets() {
		trie := mustTrie(t, set)
		prefixes := plainPrefixes(set)
		for _, w := range nearTexts(set) {
			if got, ok := impl.HasWord(trie, w); !ok || got != slices.Contains(set, w) {
				t.Fatalf("HasWord(%q, %q) = %v, %v", set, w, got, ok)
			}
			place := slices.Index(prefixes, w)
			got, ok := impl.NodeOf(trie, w)
			if ok != (place >= 0) || got != max(place, 0) {
				t.Fatalf("NodeOf(%q, %q) = %d, %v", set, w, got, ok)
			}
		}
	}
}

func TestPromise2RanksTellWords(t *testing.T) {
	for _, set := range someSets() {
		trie := mustTrie(t, set)
		for k, w := range set {
			if got, ok := impl.WordAt(trie, k); !ok || got != w {
				t.Fatalf("WordAt(%q, %d) = %q, %v", set, k, got, ok)
			}
			if got, ok := impl.RankOf(trie, w); !ok || got != k {
				t.Fatalf("RankOf(%q, %q) = %d, %v", set, w, got, ok)
			}
		}
		for _, w := range nearTexts(set) {
			if got, ok := impl.RankOf(trie, w); !ok || got != sort.SearchStrings(set, w) {
				t.Fatalf("RankOf(%q, %q) = %d, %v", set, w, got, ok)
			}
		}
		for _, k := range []int{-1, len(set), -2, len(set) + 1, math.MinInt, math.MaxInt, 1 << 32, -1 << 32} {
			if got, ok := impl.WordAt(trie, k); ok || got != "" {
				t.Fatalf("WordAt(%q, %d) = %q, %v", set, k, got, ok)
			}
		}
	}
}

func TestPromise2AddAndDropWords(t *testing.T) {
	for _, set := range someSets() {
		trie := mustTrie(t, set)
		near := nearTexts(set)
		for i, w := range near {
			if len(near) > 150 && i%9 != 0 {
				continue
			}
			more := sortedSet(append(slices.Clone(set), w))
			less := slices.DeleteFunc(slices.Clone(set), func(other string) bool { return other == w })
			has := len(less) < len(set)
			added, ok := impl.AddWord(trie, w)
			if len(more) > impl.MaxWords {
				if ok || len(added.Nodes) != 0 {
					t.Fatalf("AddWord(%q, %q) = %v, %v", set, w, added, ok)
				}
			} else if !ok || !sameTrie(added, plainTrie(more)) {
				t.Fatalf("AddWord(%q, %q) = %v, %v", set, w, added, ok)
			}
			dropped, fine := impl.DropWord(trie, w)
			if fine != has || has && !sameTrie(dropped, plainTrie(less)) || !has && len(dropped.Nodes) != 0 {
				t.Fatalf("DropWord(%q, %q) = %v, %v", set, w, dropped, fine)
			}
			if ok && !has {
				if back, fine := impl.DropWord(added, w); !fine || !sameTrie(back, trie) {
					t.Fatalf("DropWord of AddWord(%q, %q) = %v, %v", set, w, back, fine)
				}
			}
		}
	}
}

func TestPromise2AddUntilFull(t *testing.T) {
	words := append([]string{""}, manyWords(impl.MaxWords)...)
	trie := impl.Trie{Nodes: []impl.Node{nodeWith(-1, -1, false)}}
	for n, w := range words {
		next, ok := impl.AddWord(trie, w)
		if ok != (n < impl.MaxWords) {
			t.Fatalf("AddWord to %d words: %v", n, ok)
		}
		if ok {
			trie = next
		}
	}
	// A word that is there already needs no room.
	if again, ok := impl.AddWord(trie, words[3]); !ok || !sameTrie(again, trie) {
		t.Errorf("AddWord of a word of a full Trie: %v", ok)
	}
	for n, w := range words[:impl.MaxWords] {
		next, ok := impl.DropWord(trie, w)
		if !ok {
			t.Fatalf("DropWord(%q) of %d words fails", w, impl.MaxWords-n)
		}
		trie = next
	}
	if !slices.Equal(trie.Nodes, []impl.Node{nodeWith(-1, -1, false)}) {
		t.Errorf("all words dropped: %v", trie)
	}
}

func TestPromise2DepthAndSave(t *testing.T) {
	for _, c := range []struct {
		set         []string
		depth, save int
	}{
		{nil, 0, 0}, {[]string{""}, 0, 0}, {[]string{"a"}, 1, 0}, {[]string{"ab", "abc", "b"}, 3, 2},
		{[]string{"", "a", "ab"}, 2, 1}, {[]string{"abcdefghijkl"}, 12, 0}, {chainWords(13), 12, 66},
		{[]string{"abcdefghijkl", "abcdefghijkm"}, 12, 11}, {manyWords(26), 12, 0},
		{manyWords(40), 12, 14},
	} {
		trie := mustTrie(t, c.set)
		if got, ok := impl.DepthOf(trie); !ok || got != c.depth {
			t.Errorf("DepthOf(%q) = %d, %v", c.set, got, ok)
		}
		if got, ok := impl.SaveOf(trie); !ok || got != c.save {
			t.Errorf("SaveOf(%q) = %d, %v", c.set, got, ok)
		}
	}
	for _, set := range someSets() {
		trie := mustTrie(t, set)
		depth, letters := 0, 0
		for _, w := range set {
			depth, letters = max(depth, len(w)), letters+len(w)
		}
		if got, ok := impl.DepthOf(trie); !ok || got != depth {
			t.Errorf("DepthOf(%q) = %d, %v", set, got, ok)
		}
		if got, ok := impl.SaveOf(trie); !ok || got != letters-len(plainPrefixes(set))+1 {
			t.Errorf("SaveOf(%q) = %d, %v", set, got, ok)
		}
	}
}

func TestPromise2TextsRoundTrip(t *testing.T) {
	for want, set := range map[string][]string{
		"": nil, ".": {""}, "(a.)": {"a"}, ".(z.)": {"", "z"}, "(a(b.(c.))b.)": {"ab", "abc", "b"},
		"(a.(a.b.)b.)": {"a", "aa", "ab", "b"}, "(a(a(a.)))": {"aaa"},
	} {
		if got, ok := impl.TrieText(mustTrie(t, set)); !ok || got != want {
			t.Errorf("TrieText(%q) = %q, %v", set, got, ok)
		}
	}
	for _, set := range someSets() {
		trie := mustTrie(t, set)
		text, ok := impl.TrieText(trie)
		if !ok || text != plainText(set, "") {
			t.Fatalf("TrieText(%q) = %q, %v", set, text, ok)
		}
		if back, ok := impl.ParseTrie(text); !ok || !sameTrie(back, trie) {
			t.Fatalf("ParseTrie(%q) = %v, %v", text, back, ok)
		}
	}
}

func TestPromise2ParseTrieAcceptsJustWhatIsWritten(t *testing.T) {
	// A text of up to seven signs has no word of more than two letters.
	written := map[string][]string{}
	for _, set := range subsetsOf(textsOver("ab", 2)) {
		written[plainText(set, "")] = set
	}
	for _, s := range textsOver("ab.()", 7) {
		set, known := written[s]
		got, ok := impl.ParseTrie(s)
		if ok != known || ok && !sameTrie(got, plainTrie(set)) || !ok && len(got.Nodes) != 0 {
			t.Fatalf("ParseTrie(%q) = %v, %v", s, got, ok)
		}
	}
}

func TestPromise2ParseTrieRefuses(t *testing.T) {
	deep := func(n int) string {
		return strings.Repeat("(a", n) + "." + strings.Repeat(")", n)
	}
	if got, ok := impl.ParseTrie(deep(impl.MaxLetters)); !ok || !sameTrie(got, plainTrie([]string{strings.Repeat("a", impl.MaxLetters)})) {
		t.Errorf("ParseTrie of a word of the most letters = %v, %v", got, ok)
	}
	full := manyWords(impl.MaxWords + 1)
	for _, s := range []string{
		" ", "a", "a.", "..", "()", ".()", "(.)", "(a)", "(a.b)", "(ab.)", "(a()b.)", "(b.a.)", "(a.a.)",
		"(a(b.)a.)", "(a..)", "(a.", "a.)", "(a.))", "((a.)", "((a.))", "(a.).", "(a.)(b.)", "(a.)b.",
		")", "(", "(a.())", "(a(.))", "(A.)", "(a.) ", " (a.)", "(a. b.)", "(a.,b.)", "(`.)", "({.)",
		"(a\x00.)", "(\xff.)", "(\u00e9.)", "(\u0161.)", "(\U0001F600.)", "-", "(-.)", "(a!)", "(a(b.))\n",
		"a(b.)", "(.a.)", "(a.(b.)", "[a.]",
		deep(impl.MaxLetters + 1), deep(100000), strings.Repeat("(", 100000), strings.Repeat(")", 100000),
		strings.Repeat(".", 100000), strings.Repeat("a", 100000), "(" + strings.Repeat("a.", 100000) + ")",
		plainText(full, ""), "." + plainText(full[1:], ""), plainText(textsOver("ab", 5), ""),
	} {
		if got, ok := impl.ParseTrie(s); ok || len(got.Nodes) != 0 {
			t.Errorf("ParseTrie(%.30q) = %v, %v", s, got, ok)
		}
	}
}

// TestPromise2ParseTrieOfChangedTexts changes each sign of a text, takes it out, and puts another
// one before it: what is read then is written just so.
func TestPromise2ParseTrieOfChangedTexts(t *testing.T) {
	for _, set := range [][]string{{}, {"ab", "abc", "b"}, {"", "a", "ab", "zz"}, {"card", "care", "cat"}, chainWords(13)} {
		text := plainText(set, "")
		changed := []string{}
		for i := range len(text) + 1 {
			for c := range 128 {
				sign := string(rune(c))
				changed = append(changed, text[:i]+sign+text[i:])
				if i < len(text) {
					changed = append(changed, text[:i]+sign+text[i+1:])
				}
			}
			if i < len(text) {
				changed = append(changed, text[:i]+text[i+1:])
			}
		}
		for _, s := range changed {
			got, ok := impl.ParseTrie(s)
			if !ok {
				continue
			}
			words, fine := impl.WordsOf(got)
			if !fine || plainText(words, "") != s || !sameTrie(got, plainTrie(words)) {
				t.Fatalf("ParseTrie(%q) = %v, %v", s, got, ok)
			}
		}
	}
}

// checkAllFail checks that each function of chapter 2 fails for a Trie with a word, a Node or a
// number.
func checkAllFail(t *testing.T, name string, trie impl.Trie, w string, k int) {
	t.Helper()
	words, ok := impl.WordsOf(trie)
	number, fine := impl.CountWords(trie)
	if ok || len(words) != 0 || fine || number != 0 {
		t.Errorf("%s: words %v, %v, %v, %v", name, words, ok, number, fine)
	}
	rank, ok := impl.RankOf(trie, w)
	word, fine := impl.WordAt(trie, k)
	if ok || rank != 0 || fine || word != "" {
		t.Errorf("%s: rank %v, %v, word %q, %v", name, rank, ok, word, fine)
	}
	deep, ok := impl.DepthOf(trie)
	save, fine := impl.SaveOf(trie)
	if ok || deep != 0 || fine || save != 0 {
		t.Errorf("%s: depth %v, %v, save %v, %v", name, deep, ok, save, fine)
	}
	if text, ok := impl.TrieText(trie); ok || text != "" {
		t.Errorf("%s: text %q, %v", name, text, ok)
	}
	checkNoWord(t, name, trie, w)
	checkNoNode(t, trie, k)
}

// checkNoWord checks that the functions of a word fail.
func checkNoWord(t *testing.T, name string, trie impl.Trie, w string) {
	t.Helper()
	if has, ok := impl.HasWord(trie, w); ok || has {
		t.Errorf("%s: HasWord(%.20q) = %v, %v", name, w, has, ok)
	}
	if node, ok := impl.NodeOf(trie, w); ok || node != 0 {
		t.Errorf("%s: NodeOf(%.20q) = %v, %v", name, w, node, ok)
	}
	if rank, ok := impl.RankOf(trie, w); ok || rank != 0 {
		t.Errorf("%s: RankOf(%.20q) = %v, %v", name, w, rank, ok)
	}
	if added, ok := impl.AddWord(trie, w); ok || len(added.Nodes) != 0 {
		t.Errorf("%s: AddWord(%.20q) = %v, %v", name, w, added, ok)
	}
	if dropped, ok := impl.DropWord(trie, w); ok || len(dropped.Nodes) != 0 {
		t.Errorf("%s: DropWord(%.20q) = %v, %v", name, w, dropped, ok)
	}
}

func TestPromise2InvalidTriesFail(t *testing.T) {
	for name, bad := range badTries() {
		for _, w := range []string{"", "a", "ab", "abc", "b", "bb", "A", strings.Repeat("a", impl.MaxLetters)} {
			checkAllFail(t, name, bad, w, len(w)-1)
		}
	}
}

func TestPromise2TextsThatAreNoWordsFail(t *testing.T) {
	for _, set := range [][]string{{}, {""}, {"a", "ab"}, chainWords(13), manyWords(impl.MaxWords)} {
		for _, w := range notWords {
			checkNoWord(t, "valid", mustTrie(t, set), w)
		}
	}
}

func TestPromise13TriesReturnForAllArguments(t *testing.T) {
	tries := badTries()
	for _, set := range edgeSets() {
		tries["of "+strings.Join(set, " ")] = plainTrie(set)
	}
	texts := append([]string{"", "a", "ab", "zz", "(a.)", "(a(b.))"}, notWords...)
	numbers := []int{math.MinInt, math.MinInt + 1, -1 << 32, -2, -1, 0, 1, 2, 12, 39, 40, 480, 481, 1 << 32, math.MaxInt}
	for name, trie := range tries {
		before := copyTrie(trie)
		first := answersOf(trie, texts, numbers)
		if again := answersOf(trie, texts, numbers); !slices.EqualFunc(first, again, sameAnswer) {
			t.Errorf("%.20q: other results for the same arguments", name)
		}
		if !sameTrie(trie, before) {
			t.Errorf("%.20q: the Trie is modified", name)
		}
	}
	for _, s := range texts {
		first, ok := impl.ParseTrie(s)
		again, fine := impl.ParseTrie(s)
		if ok != fine || !sameTrie(first, again) || ok != impl.IsTrie(first) {
			t.Errorf("ParseTrie(%.20q): %v, %v", s, ok, fine)
		}
	}
}

// answer is a result of any function of chapter 2.
type answer struct {
	ok     bool
	number int
	text   string
	list   []string
	places []int
	trie   impl.Trie
}

func sameAnswer(a, b answer) bool {
	return a.ok == b.ok && a.number == b.number && a.text == b.text &&
		slices.Equal(a.list, b.list) && slices.Equal(a.places, b.places) && sameTrie(a.trie, b.trie)
}

// answersOf calls all functions of a Trie, those of a word or a number with each of them.
func answersOf(trie impl.Trie, texts []string, numbers []int) []answer {
	all := []answer{{ok: impl.IsTrie(trie)}}
	list, ok := impl.WordsOf(trie)
	all = append(all, answer{ok: ok, list: list})
	for _, f := range []func(impl.Trie) (int, bool){impl.CountWords, impl.DepthOf, impl.SaveOf} {
		n, ok := f(trie)
		all = append(all, answer{ok: ok, number: n})
	}
	text, ok := impl.TrieText(trie)
	all = append(all, answer{ok: ok, text: text})
	for _, w := range texts {
		has, ok := impl.HasWord(trie, w)
		all = append(all, answer{ok: ok, number: len(w)}, answer{ok: has})
		for _, f := range []func(impl.Trie, string) (int, bool){impl.NodeOf, impl.RankOf} {
			n, ok := f(trie, w)
			all = append(all, answer{ok: ok, number: n})
		}
		for _, f := range []func(impl.Trie, string) (impl.Trie, bool){impl.AddWord, impl.DropWord} {
			other, ok := f(trie, w)
			all = append(all, answer{ok: ok, trie: other})
		}
	}
	for _, n := range numbers {
		for _, f := range []func(impl.Trie, int) (string, bool){impl.PrefixOf, impl.WordAt} {
			text, ok := f(trie, n)
			all = append(all, answer{ok: ok, text: text})
		}
		places, ok := impl.KidsOf(trie, n)
		under, fine := impl.CountUnder(trie, n)
		all = append(all, answer{ok: ok, places: places}, answer{ok: fine, number: under})
	}
	return all
}

func TestPromise13TrieOfLeavesItsList(t *testing.T) {
	for _, last := range []string{"ab", "A", "b"} {
		whole := []string{"b", "", "abc", last, "kept", "behind"}
		before := slices.Clone(whole)
		impl.TrieOf(whole[:4])
		if !slices.Equal(whole, before) {
			t.Errorf("TrieOf made its list %q", whole)
		}
	}
}

func TestPromise13TriesAreLeftAsTheyWere(t *testing.T) {
	for _, set := range edgeSets() {
		// Room behind the Nodes of an argument belongs to the caller.
		room := append(plainTrie(set).Nodes, nodeWith(5, 5, true), nodeWith(6, 6, true))
		before := slices.Clone(room)
		trie := impl.Trie{Nodes: room[:len(room)-2]}
		answersOf(trie, append([]string{"a", "ab", "zzz", "A"}, set...), []int{-1, 0, 1, 2, 500})
		if !slices.Equal(room, before) {
			t.Fatalf("a function modified the Trie of %q", set)
		}
	}
}

func TestPromise13TrieResultsShareNothing(t *testing.T) {
	for _, set := range [][]string{{}, {""}, {"ab", "abc", "b"}, chainWords(13), manyWords(impl.MaxWords)} {
		trie := plainTrie(set)
		text := plainText(set, "")
		calls := map[string]func() impl.Trie{
			"TrieOf":    func() impl.Trie { got, _ := impl.TrieOf(set); return got },
			"ParseTrie": func() impl.Trie { got, _ := impl.ParseTrie(text); return got },
			"AddWord": func() impl.Trie {
				got, _ := impl.AddWord(trie, "ab")
				return got
			},
			"DropWord": func() impl.Trie { got, _ := impl.DropWord(trie, "ab"); return got },
		}
		for name, call := range calls {
			first, second := call(), call()
			want := copyTrie(second)
			spoil(first.Nodes, nodeWith(9, 9, false))
			if third := call(); !sameTrie(second, want) || !sameTrie(third, want) || !sameTrie(trie, plainTrie(set)) {
				t.Errorf("%s of %q: a changed result changes another one, or the argument", name, set)
			}
		}
		words, _ := impl.WordsOf(trie)
		kids, _ := impl.KidsOf(trie, 0)
		wantKids := slices.Clone(kids)
		spoil(words, "spoilt")
		spoil(kids, 99)
		again, _ := impl.WordsOf(trie)
		kidsAgain, _ := impl.KidsOf(trie, 0)
		if !slices.Equal(again, set) || !slices.Equal(kidsAgain, wantKids) || !sameTrie(trie, plainTrie(set)) {
			t.Errorf("%q: a changed list changes another one, or the argument", set)
		}
	}
}

// spoil overwrites all that a slice can reach.
func spoil[E any](list []E, with E) {
	full := list[:cap(list)]
	for i := range full {
		full[i] = with
	}
}
