package tests

import (
	"math"
	"slices"
	"strconv"
	"strings"
	"testing"

	"loop.example/g01243/impl"
)

func branchWith(letters string, parent int, end bool) impl.Branch {
	return impl.Branch{Letters: letters, Parent: parent, End: end}
}

func samePressed(a, b impl.Pressed) bool {
	return slices.Equal(a.Branches, b.Branches)
}

func copyPressed(p impl.Pressed) impl.Pressed {
	return impl.Pressed{Branches: slices.Clone(p.Branches)}
}

// isStaying reports whether the Node with a prefix stays: the letters behind it are counted.
func isStaying(words []string, prefix string) bool {
	next := map[byte]bool{}
	for _, w := range words {
		if len(w) > len(prefix) && strings.HasPrefix(w, prefix) {
			next[w[len(prefix)]] = true
		}
	}
	return prefix == "" || slices.Contains(words, prefix) || len(next) != 1
}

// plainStaying returns the prefixes of the Nodes that stay, in their order, and their places.
func plainStaying(words []string) ([]string, []int) {
	staying, places := []string{}, []int{}
	for place, prefix := range plainPrefixes(words) {
		if isStaying(words, prefix) {
			staying, places = append(staying, prefix), append(places, place)
		}
	}
	return staying, places
}

// plainPressed returns the Pressed tree of some words, as the document describes it: one Branch for
// each Node that stays. It keeps no limits.
func plainPressed(words []string) impl.Pressed {
	staying, _ := plainStaying(words)
	branches := []impl.Branch{}
	for _, prefix := range staying {
		branch := impl.Branch{Parent: -1, End: slices.Contains(words, prefix)}
		for other, above := range staying {
			// The longest one of the others with which the prefix begins comes last.
			if above != prefix && strings.HasPrefix(prefix, above) {
				branch.Letters, branch.Parent = prefix[len(above):], other
			}
		}
		branches = append(branches, branch)
	}
	return impl.Pressed{Branches: branches}
}

// plainPressedText writes the text of the Branch with a prefix, which begins behind some letters
// of it, out of the words.
func plainPressedText(words []string, prefix string, above int) string {
	text := prefix[above:]
	if slices.Contains(words, prefix) {
		text += "."
	}
	kids := []string{}
	for c := 'a'; c <= 'z'; c++ {
		kid := prefix + string(c)
		if countBeginning(words, kid) == 0 {
			continue
		}
		for !isStaying(words, kid) {
			under, _ := plainUnder(words, kid)
			kid = under[0][:len(kid)+1]
		}
		kids = append(kids, plainPressedText(words, kid, len(prefix)))
	}
	if len(kids) > 0 {
		text += "(" + strings.Join(kids, ",") + ")"
	}
	return text
}

// plainBranchOf returns the first Branch, of those with the prefixes that stay, whose prefix begins
// with a word, and how many of its Letters the word goes along.
func plainBranchOf(staying []string, w string) (int, int, bool) {
	for place, prefix := range staying {
		if strings.HasPrefix(prefix, w) {
			above := 0
			for _, other := range staying[:place] {
				if strings.HasPrefix(prefix, other) {
					above = len(other)
				}
			}
			return place, len(w) - above, true
		}
	}
	return 0, 0, false
}

// plainSteps returns how many Nodes that stay, but Node 0, are on the way to a word.
func plainSteps(words []string, w string) int {
	steps := 0
	for n := range w {
		if isStaying(words, w[:n+1]) {
			steps++
		}
	}
	return steps
}

// mustPress returns the Pressed tree of a set of words, which has to be the plain one.
func mustPress(t *testing.T, set []string) impl.Pressed {
	t.Helper()
	p, ok := impl.PressTrie(mustTrie(t, set))
	if !ok || !samePressed(p, plainPressed(set)) {
		t.Fatalf("PressTrie(%q) = %v, %v", set, p, ok)
	}
	return p
}

// badPressed returns Pressed trees that are not valid, by what is wrong with them.
func badPressed() map[string]impl.Pressed {
	long := strings.Repeat("a", impl.MaxLetters+1)
	bad := map[string]impl.Pressed{
		"no Branches":                {},
		"an empty list":              {Branches: []impl.Branch{}},
		"a word too many":            plainPressed(manyWords(impl.MaxWords + 1)),
		"the empty one too":          plainPressed(append([]string{""}, manyWords(impl.MaxWords)...)),
		"a word too long":            plainPressed([]string{long}),
		"a word too long by parts":   plainPressed([]string{long[:6], long}),
		"a word too long by forks":   plainPressed([]string{long + "b", long + "c"}),
		"words far too long":         plainPressed([]string{"b", strings.Repeat("z", 100000)}),
		"a letter before a":          plainPressed([]string{"`"}),
		"a letter behind z":          plainPressed([]string{"{"}),
		"a letter of two bytes":      {Branches: []impl.Branch{branchWith("", -1, false), branchWith("\u00e9", 0, true)}},
		"many Branches":              {Branches: make([]impl.Branch, 1000000)},
		"many words of a row":        plainPressed(chainWords(200)),
		"Branches of no words":       {Branches: make([]impl.Branch, 3)},
		"more Branches than can be":  plainPressed(textsOver("abc", 4)),
		"Branch 0 twice":             {Branches: []impl.Branch{branchWith("", -1, true), branchWith("", -1, true)}},
		"no Letters":                 {Branches: []impl.Branch{branchWith("", -1, false), branchWith("", 0, true)}},
		"no Letters beside others":   {Branches: []impl.Branch{branchWith("", -1, true), branchWith("", 0, true), branchWith("a", 0, true)}},
		"a way back":                 {Branches: []impl.Branch{branchWith("", -1, true), branchWith("a", 2, true), branchWith("b", 1, true)}},
		"Branches by their steps":    {Branches: []impl.Branch{branchWith("", -1, false), branchWith("a", 0, true), branchWith("b", 0, true), branchWith("b", 1, true)}},
		"not in order":               {Branches: []impl.Branch{branchWith("", -1, false), branchWith("b", 0, true), branchWith("a", 0, true)}},
		"a Branch twice":             {Branches: []impl.Branch{branchWith("", -1, false), branchWith("b", 0, true), branchWith("b", 0, true)}},
		"a shared first letter":      {Branches: []impl.Branch{branchWith("", -1, false), branchWith("ab", 0, true), branchWith("ac", 0, true)}},
		"a Branch along another one": {Branches: []impl.Branch{branchWith("", -1, false), branchWith("a", 0, true), branchWith("ac", 0, true)}},
		"one without End over one":   {Branches: []impl.Branch{branchWith("", -1, false), branchWith("a", 0, false), branchWith("b", 1, true)}},
		"no End over one, below":     {Branches: []impl.Branch{branchWith("", -1, true), branchWith("a", 0, true), branchWith("b", 1, false), branchWith("c", 2, true)}},
		"no word alone":              {Branches: []impl.Branch{branchWith("", -1, false), branchWith("a", 0, false)}},
	}
	good := plainPressed([]string{"ab", "abc", "abd", "b"})
	change := func(name string, place int, to impl.Branch) {
		wrong := copyPressed(good)
		wrong.Branches[place] = to
		bad[name] = wrong
	}
	last := len(good.Branches) - 1
	change("Branch 0 with Letters", 0, branchWith("a", -1, false))
	change("Branch 0 with very many Letters", 0, branchWith(strings.Repeat("a", 1000000), -1, false))
	change("Branch 0 with a Parent", 0, branchWith("", 0, false))
	change("Branch 0 with a lesser Parent", 0, branchWith("", -2, false))
	change("Letters that are none", last, branchWith("", 0, true))
	change("a Letter that is none", last, branchWith("B", 0, true))
	change("a Letter behind others that is none", 1, branchWith("a.", 0, true))
	change("a Letter of two bytes behind another one", last, branchWith("b\u00e9", 0, true))
	change("Letters that are no text", last, branchWith("\xff", 0, true))
	change("too many Letters", last, branchWith(strings.Repeat("b", impl.MaxLetters+1), 0, true))
	change("very many Letters", last, branchWith(strings.Repeat("b", 1000000), 0, true))
	change("too many Letters with those above", 2, branchWith("c"+strings.Repeat("b", impl.MaxLetters-2), 1, true))
	change("a Parent of itself", last, branchWith("b", last, true))
	change("a Parent behind", 1, branchWith("ab", 2, true))
	change("a Parent that is none", last, branchWith("b", -1, true))
	change("a lesser Parent", last, branchWith("b", -2, true))
	change("a Parent outside", last, branchWith("b", last+1, true))
	change("the greatest Parent", last, branchWith("b", math.MaxInt, true))
	change("the least Parent", 1, branchWith("ab", math.MinInt, true))
	change("the same Letters again", 3, branchWith("c", 1, true))
	change("a lesser Letter behind", 3, branchWith("b", 1, true))
	change("a Parent too far above", last, branchWith("b", 2, false))
	change("no word below", last, branchWith("b", 0, false))
	change("no word at the end of a way", 2, branchWith("c", 1, false))
	return bad
}

func TestPromise4PressedTreesOfWords(t *testing.T) {
	for _, c := range []struct {
		words []string
		want  []impl.Branch
		text  string
	}{
		{[]string{}, []impl.Branch{branchWith("", -1, false)}, ""},
		{[]string{""}, []impl.Branch{branchWith("", -1, true)}, "."},
		{[]string{"a"}, []impl.Branch{branchWith("", -1, false), branchWith("a", 0, true)}, "(a.)"},
		{[]string{"", "z"}, []impl.Branch{branchWith("", -1, true), branchWith("z", 0, true)}, ".(z.)"},
		{[]string{"abcdefghijkl"}, []impl.Branch{branchWith("", -1, false), branchWith("abcdefghijkl", 0, true)}, "(abcdefghijkl.)"},
		{
			[]string{"b", "ab", "abc", "ab"},
			[]impl.Branch{branchWith("", -1, false), branchWith("ab", 0, true), branchWith("c", 1, true), branchWith("b", 0, true)},
			"(ab.(c.),b.)",
		},
		{
			[]string{"card", "care", "cat", "dog"},
			[]impl.Branch{
				branchWith("", -1, false), branchWith("ca", 0, false), branchWith("r", 1, false),
				branchWith("d", 2, true), branchWith("e", 2, true), branchWith("t", 1, true), branchWith("dog", 0, true),
			},
			"(ca(r(d.,e.),t.),dog.)",
		},
		{
			[]string{"abcdefghijkl", "abcdefghijkm", "abcdef"},
			[]impl.Branch{
				branchWith("", -1, false), branchWith("abcdef", 0, true), branchWith("ghijk", 1, false),
				branchWith("l", 2, true), branchWith("m", 2, true),
			},
			"(abcdef.(ghijk(l.,m.)))",
		},
	} {
		trie := mustTrie(t, sortedSet(c.words))
		p, ok := impl.PressTrie(trie)
		if !ok || !slices.Equal(p.Branches, c.want) || !impl.IsPressed(p) {
			t.Errorf("PressTrie(%q) = %v, %v", c.words, p, ok)
		}
		if text, ok := impl.PressedText(p); !ok || text != c.text {
			t.Errorf("PressedText(%q) = %q, %v", c.words, text, ok)
		}
		if back, ok := impl.OpenPressed(impl.Pressed{Branches: c.want}); !ok || !sameTrie(back, trie) {
			t.Errorf("OpenPressed(%v) = %v, %v", c.want, back, ok)
		}
	}
}

func TestPromise4PressedAndOpened(t *testing.T) {
	for _, set := range someSets() {
		trie := mustTrie(t, set)
		p := mustPress(t, set)
		if !impl.IsPressed(p) {
			t.Fatalf("IsPressed(%v) is false", p)
		}
		if back, ok := impl.OpenPressed(p); !ok || !sameTrie(back, trie) {
			t.Fatalf("OpenPressed(%v) = %v, %v", p, back, ok)
		}
		_, want := plainStaying(set)
		if got, ok := impl.StayingNodes(trie); !ok || !slices.Equal(got, want) {
			t.Fatalf("StayingNodes(%q) = %v, %v", set, got, ok)
		}
		if got, ok := impl.CountBranches(trie); !ok || got != len(p.Branches) {
			t.Fatalf("CountBranches(%q) = %d, %v", set, got, ok)
		}
		if got, ok := impl.CountLetters(p); !ok || got != len(trie.Nodes)-1 {
			t.Fatalf("CountLetters(%q) = %d, %v", set, got, ok)
		}
		if got, ok := impl.PressedText(p); !ok || got != plainPressedText(set, "", 0) {
			t.Fatalf("PressedText(%q) = %q, %v", set, got, ok)
		}
		longest := 0
		for place, branch := range p.Branches {
			if len(branch.Letters) > len(p.Branches[longest].Letters) {
				longest = place
			}
		}
		if got, ok := impl.LongestBranch(p); !ok || got != longest {
			t.Fatalf("LongestBranch(%q) = %d, %v", set, got, ok)
		}
	}
}

func TestPromise4TheBranchesAreFew(t *testing.T) {
	for _, set := range someSets() {
		p := mustPress(t, set)
		count, ok := impl.CountBranches(mustTrie(t, set))
		if !ok || count > 2*len(set)+1 {
			t.Fatalf("CountBranches(%q) = %d, %v", set, count, ok)
		}
		for place, branch := range p.Branches[1:] {
			below := 0
			for _, other := range p.Branches {
				if other.Parent == place+1 {
					below++
				}
			}
			if !branch.End && below < 2 {
				t.Fatalf("Branch %d of %v has %d below it", place+1, p, below)
			}
		}
	}
	for _, c := range []struct {
		set     []string
		staying []int
	}{
		{nil, []int{0}}, {[]string{""}, []int{0}}, {[]string{"abc"}, []int{0, 3}}, {[]string{"", "abc"}, []int{0, 3}},
		{[]string{"ab", "abc", "b"}, []int{0, 2, 3, 4}}, {[]string{"abc", "abd"}, []int{0, 2, 3, 4}},
		{[]string{"a", "abc", "abd", "b"}, []int{0, 1, 2, 3, 4, 5}}, {[]string{"abcdefghijkl"}, []int{0, 12}},
	} {
		trie := mustTrie(t, c.set)
		if got, ok := impl.StayingNodes(trie); !ok || !slices.Equal(got, c.staying) {
			t.Errorf("StayingNodes(%q) = %v, %v", c.set, got, ok)
		}
		if got, ok := impl.CountBranches(trie); !ok || got != len(c.staying) {
			t.Errorf("CountBranches(%q) = %d, %v", c.set, got, ok)
		}
	}
}

// fullForks returns as many words as there can be, whose Pressed tree has as many Branches as one
// can have: at each fork there are just two ways, and all words begin alike.
func fullForks() []string {
	words := []string{}
	for k := range impl.MaxWords {
		bits := strconv.FormatInt(int64(k), 2)
		bits = strings.Repeat("0", 6-len(bits)) + bits
		words = append(words, "z"+strings.NewReplacer("0", "a", "1", "b").Replace(bits))
	}
	return sortedSet(words)
}

func TestPromise4TheMostBranches(t *testing.T) {
	set := fullForks()
	p := mustPress(t, set)
	if len(set) != impl.MaxWords || len(p.Branches) != 2*impl.MaxWords || !impl.IsPressed(p) {
		t.Fatalf("%d words with %d Branches: %v", len(set), len(p.Branches), impl.IsPressed(p))
	}
	if back, ok := impl.OpenPressed(p); !ok || !sameTrie(back, plainTrie(set)) {
		t.Errorf("OpenPressed of the most Branches: %v", ok)
	}
	if more, grown, ok := impl.AddPressed(p, "c"); ok || grown != 0 || len(more.Branches) != 0 {
		t.Errorf("AddPressed to the most words = %v, %d, %v", more, grown, ok)
	}
	checkAddAndDrop(t, p, set, set[0])
	checkAddAndDrop(t, p, set, set[7])
	checkAddAndDrop(t, p, set, set[len(set)-1])
}

func TestPromise4BranchesOfWords(t *testing.T) {
	for _, set := range someSets() {
		p := mustPress(t, set)
		staying, _ := plainStaying(set)
		for place, prefix := range staying {
			if got, ok := impl.BranchPrefix(p, place); !ok || got != prefix {
				t.Fatalf("BranchPrefix(%v, %d) = %q, %v", p, place, got, ok)
			}
		}
		n := len(staying)
		for _, place := range []int{-1, -2, n, n + 1, math.MinInt, math.MaxInt, 1 << 32, -1 << 32} {
			if got, ok := impl.BranchPrefix(p, place); ok || got != "" {
				t.Fatalf("BranchPrefix(%v, %d) = %q, %v", p, place, got, ok)
			}
		}
		for _, w := range nearTexts(set) {
			place, along, found := plainBranchOf(staying, w)
			if got, letters, ok := impl.BranchOf(p, w); got != place || letters != along || ok != found {
				t.Fatalf("BranchOf(%v, %q) = %d, %d, %v", p, w, got, letters, ok)
			}
			steps, isOwn := 0, slices.Contains(set, w)
			if isOwn {
				steps = plainSteps(set, w)
			}
			if got, ok := impl.StepsTo(p, w); got != steps || ok != isOwn {
				t.Fatalf("StepsTo(%v, %q) = %d, %v", p, w, got, ok)
			}
		}
	}
}

func TestPromise4BranchOf(t *testing.T) {
	for _, c := range []struct {
		words, w      string
		branch, along int
		ok            bool
	}{
		{"b ab abc", "a", 1, 1, true}, {"b ab abc", "ab", 1, 2, true}, {"b ab abc", "abc", 2, 1, true},
		{"b ab abc", "b", 3, 1, true}, {"b ab abc", "", 0, 0, true}, {"", "", 0, 0, true},
		{"abcdef", "", 0, 0, true}, {"abcdef", "abc", 1, 3, true}, {"abcdef", "abcdef", 1, 6, true},
		{"card care cat dog", "c", 1, 1, true}, {"card care cat dog", "car", 2, 1, true},
		{"card care cat dog", "do", 6, 2, true},
		// A word that leaves its way, or goes on behind a Branch.
		{"b ab abc", "aa", 0, 0, false}, {"b ab abc", "ac", 0, 0, false}, {"b ab abc", "abcd", 0, 0, false},
		{"b ab abc", "bb", 0, 0, false}, {"b ab abc", "c", 0, 0, false}, {"abcdef", "abcdefg", 0, 0, false},
		{"abcdef", "abd", 0, 0, false}, {"", "a", 0, 0, false},
	} {
		p := mustPress(t, sortedSet(strings.Fields(c.words)))
		branch, along, ok := impl.BranchOf(p, c.w)
		if branch != c.branch || along != c.along || ok != c.ok {
			t.Errorf("BranchOf(%q, %q) = %d, %d, %v", c.words, c.w, branch, along, ok)
		}
	}
	for _, set := range edgeSets() {
		if branch, along, ok := impl.BranchOf(mustPress(t, set), ""); !ok || branch != 0 || along != 0 {
			t.Errorf("BranchOf(%q) of the empty word = %d, %d, %v", set, branch, along, ok)
		}
	}
}

func TestPromise4StepsTo(t *testing.T) {
	empty := mustPress(t, []string{"", "a", "ab"})
	if steps, ok := impl.StepsTo(empty, ""); !ok || steps != 0 {
		t.Errorf("StepsTo the empty word = %d, %v", steps, ok)
	}
	p := mustPress(t, sortedSet(strings.Fields("card care cat dog doge")))
	for w, want := range map[string]int{"card": 3, "care": 3, "cat": 2, "dog": 1, "doge": 2} {
		if steps, ok := impl.StepsTo(p, w); !ok || steps != want {
			t.Errorf("StepsTo(%q) = %d, %v", w, steps, ok)
		}
	}
	// Neither a Branch without End, nor a way within one, is that of a word.
	for _, w := range []string{"", "c", "ca", "car", "d", "do", "doges", "cab", "z", "cards"} {
		if steps, ok := impl.StepsTo(p, w); ok || steps != 0 {
			t.Errorf("StepsTo(%q) = %d, %v", w, steps, ok)
		}
	}
	chain := mustPress(t, chainWords(13))
	for n := range 13 {
		if steps, ok := impl.StepsTo(chain, strings.Repeat("a", n)); !ok || steps != n {
			t.Errorf("StepsTo of %d letters = %d, %v", n, steps, ok)
		}
	}
}

func TestPromise4LongestBranchAndLetters(t *testing.T) {
	for _, c := range []struct {
		words            string
		longest, letters int
	}{
		{"", 0, 0}, {"a", 1, 1}, {"b ab abc", 1, 4}, {"b ab abcde", 2, 6},
		// Of Branches with as many Letters, the first one counts.
		{"a b c", 1, 3}, {"ab cd", 1, 4}, {"a bc de", 2, 5}, {"aab aac bbb bbc", 1, 8}, {"a abcd efg", 2, 7},
		{"a abc def xyz", 3, 9}, {"abcdefghijkl abcdefghijkm", 1, 13}, {"a zzzzzzzzzzzz", 2, 13},
	} {
		p := mustPress(t, sortedSet(strings.Fields(c.words)))
		longest, ok := impl.LongestBranch(p)
		letters, fine := impl.CountLetters(p)
		if !ok || !fine || longest != c.longest || letters != c.letters {
			t.Errorf("%q: the longest is %d, %v, with %d Letters, %v", c.words, longest, ok, letters, fine)
		}
	}
	p := mustPress(t, []string{""})
	if longest, ok := impl.LongestBranch(p); !ok || longest != 0 {
		t.Errorf("LongestBranch of the empty word = %d, %v", longest, ok)
	}
}

// checkAddAndDrop adds a word to a Pressed tree, drops it from it, and drops it again from the one
// that it has been added to.
func checkAddAndDrop(t *testing.T, p impl.Pressed, set []string, w string) {
	t.Helper()
	more := sortedSet(append(slices.Clone(set), w))
	less := slices.DeleteFunc(slices.Clone(set), func(other string) bool { return other == w })
	has := len(less) < len(set)
	want, by := plainPressed(more), 0
	if len(more) > impl.MaxWords {
		want = impl.Pressed{}
	} else {
		by = len(want.Branches) - len(p.Branches)
	}
	added, grown, ok := impl.AddPressed(p, w)
	if ok != (len(more) <= impl.MaxWords) || !samePressed(added, want) || grown != by || by < 0 || by > 2 {
		t.Fatalf("AddPressed(%q, %q) = %v, %d, %v", set, w, added, grown, ok)
	}
	want, by = impl.Pressed{}, 0
	if has {
		want = plainPressed(less)
		by = len(p.Branches) - len(want.Branches)
	}
	dropped, fell, fine := impl.DropPressed(p, w)
	if fine != has || !samePressed(dropped, want) || fell != by || by < 0 || by > 2 {
		t.Fatalf("DropPressed(%q, %q) = %v, %d, %v", set, w, dropped, fell, fine)
	}
	if ok && !has {
		back, fell, fine := impl.DropPressed(added, w)
		if !fine || !samePressed(back, p) || fell != grown {
			t.Fatalf("DropPressed of AddPressed(%q, %q) = %v, %d, %v", set, w, back, fell, fine)
		}
	}
	if has {
		back, grown, ok := impl.AddPressed(dropped, w)
		if !ok || !samePressed(back, p) || grown != fell {
			t.Fatalf("AddPressed of DropPressed(%q, %q) = %v, %d, %v", set, w, back, grown, ok)
		}
	}
}

func TestPromise4AddAndDropWords(t *testing.T) {
	for _, set := range someSets() {
		p := mustPress(t, set)
		near := nearTexts(set)
		for i, w := range near {
			if len(near) < 100 || i%7 == 0 {
				checkAddAndDrop(t, p, set, w)
			}
		}
	}
	for _, set := range subsetsOf([]string{"", "ab", "abcd", "abce", "abxy", "b"}) {
		p := mustPress(t, set)
		for _, w := range append(textsOver("abcx", 3), "abcd", "abce", "abcde", "abxy", "abxyz") {
			checkAddAndDrop(t, p, set, w)
		}
	}
}

func TestPromise4SplitAndJoined(t *testing.T) {
	for _, c := range []struct {
		words, w string
		by       int
		text     string
	}{
		// A word that is there, a Branch that becomes a word, one Branch more, and two more.
		{"ab", "ab", 0, "(ab.)"}, {"abc abd", "ab", 0, "(ab.(c.,d.))"}, {"", "a", 1, "(a.)"},
		{"ab", "abc", 1, "(ab.(c.))"}, {"ab", "cd", 1, "(ab.,cd.)"}, {"abcd", "ab", 1, "(ab.(cd.))"},
		{"abc abd", "abe", 1, "(ab(c.,d.,e.))"}, {"abc abd", "a", 1, "(a.(b(c.,d.)))"}, {"abcd", "abef", 2, "(ab(cd.,ef.))"},
		{"abcd abce", "abxy", 2, "(ab(c(d.,e.),xy.))"}, {"abcd abce", "ax", 2, "(a(bc(d.,e.),x.))"},
		{"abcd abce x", "abb", 2, "(ab(b.,c(d.,e.)),x.)"}, {"abcdefghijkl", "abcdefghijkm", 2, "(abcdefghijk(l.,m.))"},
		{"abcdefghijkl", "abcdefghijk", 1, "(abcdefghijk.(l.))"},
	} {
		set := sortedSet(strings.Fields(c.words))
		p := mustPress(t, set)
		more, grown, ok := impl.AddPressed(p, c.w)
		text, fine := impl.PressedText(more)
		if !ok || !fine || grown != c.by || text != c.text {
			t.Errorf("AddPressed(%q, %q): %q, %d, %v, %v", c.words, c.w, text, grown, ok, fine)
		}
		checkAddAndDrop(t, p, set, c.w)
		if slices.Contains(set, c.w) {
			continue
		}
		less, fell, ok := impl.DropPressed(more, c.w)
		if !ok || fell != c.by || !samePressed(less, p) {
			t.Errorf("DropPressed(%q, %q) = %v, %d, %v", text, c.w, less, fell, ok)
		}
	}
}

func TestPromise4TheEmptyWord(t *testing.T) {
	// Branch 0 stays, whatever is below it, so the empty word never needs a Branch.
	for _, set := range [][]string{{}, {"a"}, {"abc"}, {"a", "b"}, {"abc", "abd"}, chainWords(13)[1:], manyWords(impl.MaxWords - 1)} {
		p := mustPress(t, set)
		if less, fell, ok := impl.DropPressed(p, ""); ok || fell != 0 || len(less.Branches) != 0 {
			t.Errorf("DropPressed(%q) of the empty word = %v, %d, %v", set, less, fell, ok)
		}
		more, grown, ok := impl.AddPressed(p, "")
		if !ok || grown != 0 || !samePressed(more, plainPressed(append([]string{""}, set...))) {
			t.Errorf("AddPressed(%q) of the empty word = %v, %d, %v", set, more, grown, ok)
		}
		back, fell, ok := impl.DropPressed(more, "")
		if !ok || fell != 0 || !samePressed(back, p) {
			t.Errorf("DropPressed(%q) of the empty word again = %v, %d, %v", set, back, fell, ok)
		}
	}
}

func TestPromise4AddAndDropAllWords(t *testing.T) {
	for _, words := range [][]string{
		append([]string{""}, manyWords(impl.MaxWords)...), append(fullForks(), "b"),
		append(slices.Clone(fullForks()[1:]), "zaa", ""), append(chainWords(13), manyWords(28)...),
	} {
		m := mixed(len(words))
		for i := range words {
			j := m.below(i + 1)
			words[i], words[j] = words[j], words[i]
		}
		p := mustPress(t, nil)
		for n, w := range words {
			checkAddAndDrop(t, p, sortedSet(words[:n]), w)
			more, _, ok := impl.AddPressed(p, w)
			if ok != (n < impl.MaxWords) {
				t.Fatalf("AddPressed to %d words: %v", n, ok)
			}
			if ok {
				p = more
			}
		}
		kept := words[:impl.MaxWords]
		// A word that is there already needs no room.
		if again, grown, ok := impl.AddPressed(p, kept[3]); !ok || grown != 0 || !samePressed(again, p) {
			t.Errorf("AddPressed of a word of a full tree: %d, %v", grown, ok)
		}
		for n, w := range kept {
			less, _, ok := impl.DropPressed(p, w)
			if !ok || !samePressed(less, plainPressed(kept[n+1:])) {
				t.Fatalf("DropPressed(%q) of %d words = %v, %v", w, len(kept)-n, less, ok)
			}
			p = less
		}
	}
}

func TestPromise4IsPressed(t *testing.T) {
	for _, set := range someSets() {
		if !impl.IsPressed(plainPressed(set)) {
			t.Errorf("IsPressed of %q is false", set)
		}
	}
	for name, bad := range badPressed() {
		if impl.IsPressed(bad) {
			t.Errorf("IsPressed is true: %s", name)
		}
	}
}

// pressedForm returns some Branches as one value; the places behind them have one never valid.
func pressedForm(branches []impl.Branch) [4]impl.Branch {
	form := [4]impl.Branch{}
	for i := range form {
		form[i].Parent = -9
	}
	copy(form[:], branches)
	return form
}

func TestPromise4IsPressedOfAllSmallOnes(t *testing.T) {
	forms := map[[4]impl.Branch]bool{}
	letters := []string{"", "a", "b", "ba"}
	for _, set := range subsetsOf(sortedSet([]string{
		"", "a", "b", "ba", "aa", "ab", "aba", "bb", "bba", "baa", "bab", "baba", "aaa",
	})) {
		if p := plainPressed(set); len(set) <= 4 && len(p.Branches) <= 3 {
			forms[pressedForm(p.Branches)] = true
		}
	}
	choices := []impl.Branch{}
	for _, text := range letters {
		for parent := -1; parent <= 2; parent++ {
			choices = append(choices, branchWith(text, parent, false), branchWith(text, parent, true))
		}
	}
	found := 0
	var try func(branches []impl.Branch)
	try = func(branches []impl.Branch) {
		p := impl.Pressed{Branches: branches}
		got := impl.IsPressed(p)
		if got != isPlainPressed(p) || got && !forms[pressedForm(branches)] {
			t.Fatalf("IsPressed(%v) is %v", branches, got)
		}
		if got {
			found++
		}
		if len(branches) == 3 {
			return
		}
		for _, branch := range choices {
			try(append(branches[:len(branches):len(branches)], branch))
		}
	}
	try(nil)
	if found < 20 {
		t.Errorf("only %d Pressed trees found", found)
	}
}

// isPlainPressed reads the words of Branches whose Parents are before them, and holds the Branches
// against the Pressed tree of these words.
func isPlainPressed(p impl.Pressed) bool {
	prefixes, words := []string{}, []string{}
	for place, branch := range p.Branches {
		prefix := branch.Letters
		if place > 0 {
			if branch.Parent < 0 || branch.Parent >= place {
				return false
			}
			prefix = prefixes[branch.Parent] + branch.Letters
		}
		prefixes = append(prefixes, prefix)
		if branch.End {
			words = append(words, prefix)
		}
		if len(prefix) > impl.MaxLetters || strings.Trim(prefix, "abcdefghijklmnopqrstuvwxyz") != "" {
			return false
		}
	}
	return len(words) <= impl.MaxWords && samePressed(p, plainPressed(words))
}

// TestPromise4IsPressedOfChangedOnes changes a part of one Branch, takes one out, or puts it in
// again: what is valid then has the same form as the Pressed tree of its words.
func TestPromise4IsPressedOfChangedOnes(t *testing.T) {
	for _, set := range edgeSets() {
		if len(set) > 20 {
			set = set[:5]
		}
		p := plainPressed(set)
		changed := []impl.Pressed{}
		for place, branch := range p.Branches {
			without := impl.Pressed{Branches: slices.Delete(slices.Clone(p.Branches), place, place+1)}
			twice := impl.Pressed{Branches: slices.Insert(slices.Clone(p.Branches), place, branch)}
			changed = append(changed, without, twice)
			others := []impl.Branch{branchWith(branch.Letters, branch.Parent, !branch.End)}
			for to := -2; to <= len(p.Branches)+1; to++ {
				others = append(others, branchWith(branch.Letters, to, branch.End))
			}
			for _, text := range []string{"", "a", "b", "z", "ab", "c", "A", "a" + branch.Letters, branch.Letters + "b", branch.Letters + "."} {
				others = append(others, branchWith(text, branch.Parent, branch.End))
			}
			if n := len(branch.Letters); n > 0 {
				others = append(others, branchWith(branch.Letters[1:], branch.Parent, branch.End))
				others = append(others, branchWith(branch.Letters[:n-1]+"z", branch.Parent, branch.End))
			}
			for _, other := range others {
				one := copyPressed(p)
				one.Branches[place] = other
				changed = append(changed, one)
			}
		}
		for _, one := range changed {
			want := isPlainPressed(one)
			trie, ok := impl.OpenPressed(one)
			if impl.IsPressed(one) != want || ok != want || ok != impl.IsTrie(trie) {
				t.Fatalf("%v: IsPressed is %v, OpenPressed is %v, %v", one, !want, trie, ok)
			}
		}
	}
}

// checkNoPressed checks that each function fails for a Pressed tree with a word and a Branch.
func checkNoPressed(t *testing.T, name string, p impl.Pressed, w string, place int) {
	t.Helper()
	if trie, ok := impl.OpenPressed(p); ok || len(trie.Nodes) != 0 {
		t.Errorf("%s: OpenPressed = %v, %v", name, trie, ok)
	}
	if prefix, ok := impl.BranchPrefix(p, place); ok || prefix != "" {
		t.Errorf("%s: BranchPrefix(%d) = %q, %v", name, place, prefix, ok)
	}
	for i, f := range []func(impl.Pressed) (int, bool){impl.LongestBranch, impl.CountLetters} {
		if n, ok := f(p); ok || n != 0 {
			t.Errorf("%s: number %d = %d, %v", name, i, n, ok)
		}
	}
	if text, ok := impl.PressedText(p); ok || text != "" {
		t.Errorf("%s: PressedText = %q, %v", name, text, ok)
	}
	checkNoPressedWord(t, name, p, w)
}

// checkNoPressedWord checks that the functions of a word fail.
func checkNoPressedWord(t *testing.T, name string, p impl.Pressed, w string) {
	t.Helper()
	if place, along, ok := impl.BranchOf(p, w); ok || place != 0 || along != 0 {
		t.Errorf("%s: BranchOf(%.20q) = %d, %d, %v", name, w, place, along, ok)
	}
	if steps, ok := impl.StepsTo(p, w); ok || steps != 0 {
		t.Errorf("%s: StepsTo(%.20q) = %d, %v", name, w, steps, ok)
	}
	if more, grown, ok := impl.AddPressed(p, w); ok || grown != 0 || len(more.Branches) != 0 {
		t.Errorf("%s: AddPressed(%.20q) = %v, %d, %v", name, w, more, grown, ok)
	}
	if less, fell, ok := impl.DropPressed(p, w); ok || fell != 0 || len(less.Branches) != 0 {
		t.Errorf("%s: DropPressed(%.20q) = %v, %d, %v", name, w, less, fell, ok)
	}
}

func TestPromise4InvalidTreesFail(t *testing.T) {
	for name, bad := range badPressed() {
		for _, w := range []string{"", "a", "ab", "abc", "b", "bb", "z", "A", strings.Repeat("a", impl.MaxLetters)} {
			checkNoPressed(t, name, bad, w, len(w)-1)
		}
	}
	for name, bad := range badTries() {
		if p, ok := impl.PressTrie(bad); ok || len(p.Branches) != 0 {
			t.Errorf("%s: PressTrie = %v, %v", name, p, ok)
		}
		if list, ok := impl.StayingNodes(bad); ok || len(list) != 0 {
			t.Errorf("%s: StayingNodes = %v, %v", name, list, ok)
		}
		if n, ok := impl.CountBranches(bad); ok || n != 0 {
			t.Errorf("%s: CountBranches = %d, %v", name, n, ok)
		}
	}
}

func TestPromise4TextsThatAreNoWordsFail(t *testing.T) {
	for _, set := range [][]string{{}, {""}, {"a", "ab"}, {"abc", "abd"}, chainWords(13), manyWords(impl.MaxWords)} {
		for _, w := range notWords {
			checkNoPressedWord(t, "valid", mustPress(t, set), w)
		}
	}
	// A word of the most letters is one, and one more letter is too many, whatever the tree.
	long := strings.Repeat("a", impl.MaxLetters)
	p := mustPress(t, []string{long[:5]})
	more, grown, ok := impl.AddPressed(p, long)
	if !ok || grown != 1 || !samePressed(more, plainPressed([]string{long[:5], long})) {
		t.Errorf("AddPressed of the longest word = %v, %d, %v", more, grown, ok)
	}
	checkNoPressedWord(t, "the longest", more, long+"a")
}

// pressedAnswer is a result of any function of chapter 4.
type pressedAnswer struct {
	answer
	along   int
	pressed impl.Pressed
}

func samePressedAnswer(a, b pressedAnswer) bool {
	return sameAnswer(a.answer, b.answer) && a.along == b.along && samePressed(a.pressed, b.pressed)
}

// pressedAnswersOf calls all functions of a Pressed tree, those of a word or a Branch with each.
func pressedAnswersOf(p impl.Pressed, texts []string, numbers []int) []pressedAnswer {
	all := []pressedAnswer{}
	add := func(a answer) { all = append(all, pressedAnswer{answer: a}) }
	add(answer{ok: impl.IsPressed(p)})
	trie, ok := impl.OpenPressed(p)
	add(answer{ok: ok, trie: trie})
	for _, f := range []func(impl.Pressed) (int, bool){impl.LongestBranch, impl.CountLetters} {
		n, ok := f(p)
		add(answer{ok: ok, number: n})
	}
	text, ok := impl.PressedText(p)
	add(answer{ok: ok, text: text})
	for _, n := range numbers {
		prefix, ok := impl.BranchPrefix(p, n)
		add(answer{ok: ok, text: prefix})
	}
	for _, w := range texts {
		place, along, ok := impl.BranchOf(p, w)
		all = append(all, pressedAnswer{answer: answer{ok: ok, number: place}, along: along})
		steps, ok := impl.StepsTo(p, w)
		add(answer{ok: ok, number: steps})
		for _, f := range []func(impl.Pressed, string) (impl.Pressed, int, bool){impl.AddPressed, impl.DropPressed} {
			other, by, ok := f(p, w)
			all = append(all, pressedAnswer{answer: answer{ok: ok, number: by}, pressed: other})
		}
	}
	return all
}

// trieAnswersOf calls all functions of chapter 4 with a Trie.
func trieAnswersOf(trie impl.Trie) []pressedAnswer {
	p, ok := impl.PressTrie(trie)
	list, fine := impl.StayingNodes(trie)
	n, all := impl.CountBranches(trie)
	return []pressedAnswer{
		{answer: answer{ok: ok}, pressed: p}, {answer: answer{ok: fine, places: list}}, {answer: answer{ok: all, number: n}},
	}
}

func TestPromise13PressedTreesReturnForAllArguments(t *testing.T) {
	trees, tries := badPressed(), badTries()
	for _, set := range edgeSets() {
		name := "of " + strings.Join(set, " ")
		trees[name], tries[name] = plainPressed(set), plainTrie(set)
	}
	texts := append([]string{"", "a", "ab", "abc", "zz", strings.Repeat("a", impl.MaxLetters)}, notWords...)
	numbers := []int{math.MinInt, math.MinInt + 1, -1 << 32, -2, -1, 0, 1, 2, 12, 40, 80, 81, 1 << 32, math.MaxInt}
	for name, p := range trees {
		before := copyPressed(p)
		first := pressedAnswersOf(p, texts, numbers)
		if again := pressedAnswersOf(p, texts, numbers); !slices.EqualFunc(first, again, samePressedAnswer) {
			t.Errorf("%.20q: other results for the same arguments", name)
		}
		if !samePressed(p, before) {
			t.Errorf("%.20q: the Pressed tree is modified", name)
		}
	}
	for name, trie := range tries {
		before := copyTrie(trie)
		first := trieAnswersOf(trie)
		if again := trieAnswersOf(trie); !slices.EqualFunc(first, again, samePressedAnswer) {
			t.Errorf("%.20q: other results for the same arguments", name)
		}
		if !sameTrie(trie, before) {
			t.Errorf("%.20q: the Trie is modified", name)
		}
	}
}

func TestPromise13PressedTreesAreLeftAsTheyWere(t *testing.T) {
	for _, set := range edgeSets() {
		// Room behind the Branches and the Nodes of an argument belongs to the caller.
		room := append(plainPressed(set).Branches, branchWith("x", 5, true), branchWith("y", 6, true))
		before := slices.Clone(room)
		p := impl.Pressed{Branches: room[:len(room)-2]}
		pressedAnswersOf(p, append([]string{"a", "ab", "zzz", "A"}, set...), []int{-1, 0, 1, 2, 500})
		if !slices.Equal(room, before) {
			t.Fatalf("a function modified the Pressed tree of %q", set)
		}
		nodes := append(plainTrie(set).Nodes, nodeWith(5, 5, true), nodeWith(6, 6, true))
		kept := slices.Clone(nodes)
		trieAnswersOf(impl.Trie{Nodes: nodes[:len(nodes)-2]})
		if !slices.Equal(nodes, kept) {
			t.Fatalf("a function modified the Trie of %q", set)
		}
	}
}

func TestPromise13PressedResultsShareNothing(t *testing.T) {
	for _, set := range edgeSets() {
		p, trie := plainPressed(set), plainTrie(set)
		texts := append([]string{"", "a", "ab", "abd", "zz"}, set...)
		all := func() []pressedAnswer {
			return append(pressedAnswersOf(p, texts, []int{0, 1}), trieAnswersOf(trie)...)
		}
		want := all()
		for _, a := range all() {
			spoil(a.places, 99)
			spoil(a.trie.Nodes, nodeWith(9, 9, false))
			spoil(a.pressed.Branches, branchWith("spoilt", 9, false))
		}
		if !slices.EqualFunc(all(), want, samePressedAnswer) || !samePressed(p, plainPressed(set)) || !sameTrie(trie, plainTrie(set)) {
			t.Fatalf("%q: a changed result changes another one, or the argument", set)
		}
	}
}
