package tests

import (
	"math"
	"slices"
	"strings"
	"testing"

	"loop.example/g01243/impl"
)

// plainMatches returns the numbers of letters of the words, but the empty one, that stand in a
// passage at a place.
func plainMatches(words []string, passage string, at int) []int {
	matches := []int{}
	for n := 1; at+n <= len(passage); n++ {
		if slices.Contains(words, passage[at:at+n]) {
			matches = append(matches, n)
		}
	}
	return matches
}

// plainSplits returns all splits of a passage, one by one: for short passages only.
func plainSplits(words []string, passage string) [][]string {
	if passage == "" {
		return [][]string{{}}
	}
	splits := [][]string{}
	for _, n := range plainMatches(words, passage, 0) {
		for _, rest := range plainSplits(words, passage[n:]) {
			splits = append(splits, append([]string{passage[:n]}, rest...))
		}
	}
	return splits
}

// isBetter reports whether the split a is better than the split b.
func isBetter(a, b []string) bool {
	if len(a) != len(b) {
		return len(a) < len(b)
	}
	for i := range a {
		if a[i] != b[i] {
			return len(a[i]) > len(b[i])
		}
	}
	return false
}

// plainPlaces returns 0 and all places at which words of some splits begin or end.
func plainPlaces(splits [][]string) []int {
	isPlace := [impl.MaxPassage + 1]bool{}
	for _, split := range splits {
		isPlace[0] = true
		at := 0
		for _, w := range split {
			at += len(w)
			isPlace[at] = true
		}
	}
	places := []int{}
	for at, is := range isPlace {
		if is {
			places = append(places, at)
		}
	}
	return places
}

// plainMost tries all covers of what is left of a passage: for short passages only.
func plainMost(words []string, rest string) int {
	if rest == "" {
		return 0
	}
	most := plainMost(words, rest[1:])
	for _, n := range plainMatches(words, rest, 0) {
		most = max(most, n+plainMost(words, rest[n:]))
	}
	return most
}

// forwardSplits returns for each beginning of a passage how many splits it has, the best one, and
// the most letters in a cover, from the shorter beginnings on: for passages of any size.
func forwardSplits(words []string, passage string) (counts []int, best [][]string, most []int) {
	counts = append(counts, 1)
	best = append(best, []string{})
	most = append(most, 0)
	for end := 1; end <= len(passage); end++ {
		count, covered := 0, most[end-1]
		var split []string
		for _, w := range words {
			start := end - len(w)
			if w == "" || !strings.HasSuffix(passage[:end], w) {
				continue
			}
			covered = max(covered, most[start]+len(w))
			if counts[start] == 0 {
				continue
			}
			count += counts[start]
			if other := append(slices.Clone(best[start]), w); split == nil || isBetter(other, split) {
				split = other
			}
		}
		counts, best, most = append(counts, count), append(best, split), append(most, covered)
	}
	return counts, best, most
}

// plainGreedy takes the longest word again and again, and returns how many letters are left.
func plainGreedy(words []string, passage string) ([]string, int) {
	taken := []string{}
	rest := passage
	for {
		longest := ""
		for _, w := range words {
			if strings.HasPrefix(rest, w) && len(w) > len(longest) {
				longest = w
			}
		}
		if longest == "" {
			return taken, len(rest)
		}
		taken = append(taken, longest)
		rest = rest[len(longest):]
	}
}

// checkMatches checks the words that stand in a passage, at each of its places.
func checkMatches(t *testing.T, trie impl.Trie, words []string, passage string) {
	t.Helper()
	pairs := [][2]int{}
	for at := range len(passage) + 1 {
		want := plainMatches(words, passage, at)
		if got, ok := impl.MatchesAt(trie, passage, at); !ok || !slices.Equal(got, want) {
			t.Fatalf("MatchesAt(%q, %q, %d) = %v, %v; want %v", words, passage, at, got, ok, want)
		}
		for _, n := range want {
			pairs = append(pairs, [2]int{at, n})
		}
	}
	if got, ok := impl.StandingWords(trie, passage); !ok || !slices.Equal(got, pairs) {
		t.Fatalf("StandingWords(%q, %q) = %v, %v; want %v", words, passage, got, ok, pairs)
	}
	taken, left := plainGreedy(words, passage)
	greedy, rest, ok := impl.GreedySplit(trie, passage)
	if !ok || !slices.Equal(greedy, taken) || rest != left {
		t.Fatalf("GreedySplit(%q, %q) = %q, %d, %v; want %q, %d", words, passage, greedy, rest, ok, taken, left)
	}
	longest := ""
	if len(taken) > 0 {
		longest = taken[0]
	}
	if got, ok := impl.LongestMatch(trie, passage); got != longest || ok != (longest != "") {
		t.Fatalf("LongestMatch(%q, %q) = %q, %v; want %q", words, passage, got, ok, longest)
	}
}

// checkSplits checks the splits of a passage; the best one is nil if there is none.
func checkSplits(t *testing.T, trie impl.Trie, passage string, count int, best []string, places []int, most int) {
	t.Helper()
	if got, ok := impl.CountSplits(trie, passage); !ok || got != count {
		t.Fatalf("CountSplits(%v, %q) = %d, %v; want %d", trie, passage, got, ok, count)
	}
	got, ok := impl.BestSplit(trie, passage)
	if ok != (count > 0) || !slices.Equal(got, best) {
		t.Fatalf("BestSplit(%v, %q) = %q, %v; want %q", trie, passage, got, ok, best)
	}
	if got, ok := impl.SplitPlaces(trie, passage); !ok || !slices.Equal(got, places) {
		t.Fatalf("SplitPlaces(%v, %q) = %v, %v; want %v", trie, passage, got, ok, places)
	}
	if got, ok := impl.MostCovered(trie, passage); !ok || got != most {
		t.Fatalf("MostCovered(%v, %q) = %d, %v; want %d", trie, passage, got, ok, most)
	}
	greedy, left, _ := impl.GreedySplit(trie, passage)
	if left == 0 && (len(best) > len(greedy) || count == 0) {
		t.Fatalf("GreedySplit(%v, %q) = %q is better than %q", trie, passage, greedy, best)
	}
	if count > 0 && (strings.Join(best, "") != passage || most != len(passage)) {
		t.Fatalf("the splits of %q by %v are not the passage", passage, trie)
	}
}

// checkShort checks all of a passage for which all splits and covers can be tried.
func checkShort(t *testing.T, trie impl.Trie, words []string, passage string) {
	t.Helper()
	splits := plainSplits(words, passage)
	var best []string
	for _, split := range splits {
		if best == nil || isBetter(split, best) {
			best = split
		}
	}
	checkMatches(t, trie, words, passage)
	checkSplits(t, trie, passage, len(splits), best, plainPlaces(splits), plainMost(words, passage))
}

// checkLong checks all of a passage of any size.
func checkLong(t *testing.T, trie impl.Trie, words []string, passage string) {
	t.Helper()
	counts, best, most := forwardSplits(words, passage)
	places := []int{}
	for at := range counts {
		behind, _, _ := forwardSplits(words, passage[at:])
		if counts[at] > 0 && behind[len(passage)-at] > 0 {
			places = append(places, at)
		}
	}
	last := len(passage)
	checkMatches(t, trie, words, passage)
	checkSplits(t, trie, passage, counts[last], best[last], places, most[last])
}

// fullOf returns a passage of the most letters that has a text again and again.
func fullOf(text string) string {
	return strings.Repeat(text, impl.MaxPassage)[:impl.MaxPassage]
}

func TestPromise3SplitsOfShortPassages(t *testing.T) {
	passages := textsOver("ab", 6)
	for _, set := range subsetsOf(textsOver("ab", 2)) {
		trie := mustTrie(t, set)
		for _, passage := range passages {
			checkShort(t, trie, set, passage)
		}
	}
	sets := [][]string{
		{"a", "abc", "bc", "c"}, {"aaa", "aa"}, {"ab", "abc", "cab", "ca"}, {"", "a", "bb", "ccc"},
		{"aab", "aba", "baa"}, {"abcabc", "abc", "bcab", "c"}, {"a", "b", "c", "abc", "bca", "cab"},
	}
	for _, set := range sets {
		trie := mustTrie(t, sortedSet(set))
		for _, passage := range textsOver("abc", 6) {
			checkShort(t, trie, set, passage)
		}
	}
}

func TestPromise3SplitsOfLongPassages(t *testing.T) {
	m := mixed(23)
	for _, set := range someSets() {
		trie := mustTrie(t, set)
		for range 6 {
			passage := ""
			for range m.below(30) {
				// A word, or a letter that mostly leads nowhere.
				if len(set) > 0 && m.below(8) > 0 {
					passage += set[m.below(len(set))]
				} else {
					passage += string(rune('a' + m.below(4)))
				}
			}
			checkLong(t, trie, set, passage[:min(len(passage), impl.MaxPassage)])
		}
		for _, text := range []string{"a", "ab", "z", "abcdefghijklmnopqrstuvwxyz"} {
			checkLong(t, trie, set, fullOf(text))
		}
	}
	for _, set := range [][]string{
		{"aaaaa", "aaaaaaa"}, {"aaaaaaa"}, {"aab", "aaba", "baa", "b"}, {"ab", "ba", "aba"},
		{"abcdefghijkl", "abcdef", "ghijkl", "ghijklabcdef"},
	} {
		for _, text := range []string{"a", "aab", "ab", "ba", "aba", "abcdefghijkl", "bcdefghijkla"} {
			checkLong(t, mustTrie(t, set), set, fullOf(text))
			checkLong(t, mustTrie(t, set), set, fullOf(text)[1:])
		}
	}
}

func TestPromise3BestSplit(t *testing.T) {
	for _, c := range []struct {
		words, passage, want string
	}{
		{"a ab abc b cab", "abcab", "abc ab"},
		// The longest word first is not always the best.
		{"abc ab cdef d e f", "abcdef", "ab cdef"},
		{"abc ab cd", "abcd", "ab cd"},
		{"a b aab", "aaab", "a aab"},
		{"a aa ab", "aab", "a ab"},
		// Of two splits with as many words, the longer first different word counts.
		{"abc ab a d cd bcd", "abcd", "abc d"},
		{"x abc ab a d cd bcd", "xabcd", "x abc d"},
		{"a aa aaa", "aaaa", "aaa a"},
		{"aa aaa", "aaaaaaa", "aaa aa aa"},
		{"ab abc cde de f", "abcdefabcde", "abc de f abc de"},
		{"ab abcd cdef ef efgh gh", "abcdefgh", "abcd efgh"},
		{"aaaaa aaaaaaa", fullOf("a"), strings.Repeat("aaaaaaa ", 5) + "aaaaa aaaaa aaaaa aaaaa aaaaa"},
	} {
		words := strings.Fields(c.words)
		got, ok := impl.BestSplit(mustTrie(t, sortedSet(words)), c.passage)
		if !ok || strings.Join(got, " ") != c.want {
			t.Errorf("BestSplit(%q, %q) = %q, %v", words, c.passage, got, ok)
		}
	}
	for passage, words := range map[string]string{
		"cc": "a ab abc b cab", "a": "", "aaa": "aa", "abcabd": "abc ab", "b": "a", "ab": "a", "ba": "a",
		fullOf("a"): "aaaaaaa",
	} {
		trie := mustTrie(t, sortedSet(strings.Fields(words)))
		if got, ok := impl.BestSplit(trie, passage); ok || len(got) != 0 {
			t.Errorf("BestSplit(%q, %q) = %q, %v", words, passage, got, ok)
		}
	}
}

func TestPromise3GreedySplit(t *testing.T) {
	for _, c := range []struct {
		words, passage, want string
		left                 int
	}{
		{"a ab abc b cab", "abcabx", "abc ab", 1},
		{"abc ab cd", "abcd", "abc", 1},
		{"a b", "cab", "", 3},
		{"", "abc", "", 3},
		{"a", "", "", 0},
		{"aaaaa aaaaaaa", fullOf("a"), strings.TrimSpace(strings.Repeat("aaaaaaa ", 8)), 4},
		{"a", fullOf("a"), strings.TrimSpace(strings.Repeat("a ", impl.MaxPassage)), 0},
	} {
		words := strings.Fields(c.words)
		got, left, ok := impl.GreedySplit(mustTrie(t, sortedSet(words)), c.passage)
		if !ok || strings.Join(got, " ") != c.want || left != c.left {
			t.Errorf("GreedySplit(%q, %q) = %q, %d, %v", words, c.passage, got, left, ok)
		}
	}
}

func TestPromise3VeryManySplits(t *testing.T) {
	passage := fullOf("a")
	// How many splits n letters have by words of 1 to size letters a.
	bySize := func(n, size int) int {
		counts := []int{1}
		for k := 1; k <= n; k++ {
			counts = append(counts, 0)
			for letters := 1; letters <= min(size, k); letters++ {
				counts[k] += counts[k-letters]
			}
		}
		return counts[n]
	}
	for size := range impl.MaxLetters + 1 {
		for _, empty := range []int{0, 1} {
			trie := mustTrie(t, chainWords(size + 1)[empty:])
			for n := range impl.MaxPassage + 1 {
				if got, ok := impl.CountSplits(trie, passage[:n]); !ok || got != bySize(n, size) {
					t.Fatalf("CountSplits of %d letters by words of up to %d = %d, %v", n, size, got, ok)
				}
			}
		}
	}
	two, _ := impl.CountSplits(mustTrie(t, []string{"a", "aa"}), passage)
	all, _ := impl.CountSplits(mustTrie(t, chainWords(13)), passage)
	if two != 2504730781961 || all != bySize(60, 12) || all < 1<<58 {
		t.Errorf("very many splits: %d, %d", two, all)
	}
	best, ok := impl.BestSplit(mustTrie(t, chainWords(13)), passage)
	if want := slices.Repeat([]string{strings.Repeat("a", 12)}, 5); !ok || !slices.Equal(best, want) {
		t.Errorf("BestSplit of very many = %q, %v", best, ok)
	}
	standing, ok := impl.StandingWords(mustTrie(t, chainWords(13)), passage)
	if !ok || len(standing) != 49*12+11*12/2 {
		t.Errorf("StandingWords of very many: %d, %v", len(standing), ok)
	}
	// Without a last letter that any word has, none of the very many ways leads to the end.
	for _, p := range []string{passage[1:] + "b", "b" + passage[1:]} {
		checkSplits(t, mustTrie(t, chainWords(13)), p, 0, nil, nil, impl.MaxPassage-1)
	}
}

func TestPromise3TheEmptyPassage(t *testing.T) {
	for _, set := range edgeSets() {
		trie := mustTrie(t, set)
		checkSplits(t, trie, "", 1, []string{}, []int{0}, 0)
		greedy, left, ok := impl.GreedySplit(trie, "")
		if !ok || len(greedy) != 0 || left != 0 {
			t.Errorf("GreedySplit(%q) of nothing = %q, %d, %v", set, greedy, left, ok)
		}
		if w, ok := impl.LongestMatch(trie, ""); ok || w != "" {
			t.Errorf("LongestMatch(%q) of nothing = %q, %v", set, w, ok)
		}
		pairs, ok := impl.StandingWords(trie, "")
		list, fine := impl.MatchesAt(trie, "", 0)
		if !ok || len(pairs) != 0 || !fine || len(list) != 0 {
			t.Errorf("words of %q in nothing: %v, %v, %v, %v", set, pairs, ok, list, fine)
		}
	}
}

func TestPromise3TheTrieWithoutWords(t *testing.T) {
	// The empty word does not count for passages, so the Trie of it alone does the same there.
	for _, set := range [][]string{{}, {""}} {
		trie := mustTrie(t, set)
		for _, passage := range []string{"a", "ab", "zz", fullOf("a")} {
			checkShort(t, trie, set, passage)
			checkSplits(t, trie, passage, 0, nil, nil, 0)
			greedy, left, ok := impl.GreedySplit(trie, passage)
			if !ok || len(greedy) != 0 || left != len(passage) {
				t.Errorf("GreedySplit(%q, %q) = %q, %d, %v", set, passage, greedy, left, ok)
			}
		}
	}
	none := mustTrie(t, nil)
	if s, ok := impl.SharedPrefix(none); ok || s != "" {
		t.Errorf("SharedPrefix of no words = %q, %v", s, ok)
	}
	for _, w := range []string{"", "a", "abcdefghijkl"} {
		if s, ok := impl.CompleteTo(none, w); ok || s != "" {
			t.Errorf("CompleteTo(%q) of no words = %q, %v", w, s, ok)
		}
		if s, ok := impl.UniquePrefix(none, w); ok || s != "" {
			t.Errorf("UniquePrefix(%q) of no words = %q, %v", w, s, ok)
		}
		if list, ok := impl.WordsUnder(none, w); !ok || len(list) != 0 {
			t.Errorf("WordsUnder(%q) of no words = %q, %v", w, list, ok)
		}
	}
}

func TestPromise3SplitPlacesAndCovers(t *testing.T) {
	for _, c := range []struct {
		words, passage string
		places         []int
		most           int
	}{
		{"a ab abc b cab", "abcab", []int{0, 1, 2, 3, 4, 5}, 5},
		{"a ab abc b cab", "abxab", nil, 4},
		// A word that stands at the beginning need not be in a split, nor one at the end.
		{"ab abc cd", "abcd", []int{0, 2, 4}, 4},
		{"ab abc cd d", "abcd", []int{0, 2, 3, 4}, 4},
		{"abc bcd ab", "abcd", nil, 3},
		// One long word in the middle is less than two shorter ones beside it.
		{"ab cd bcd", "abcde", nil, 4},
		{"abc cdefg", "abcdefg", nil, 5},
		{"abc cde efg", "abcdefg", nil, 6},
		{"b", "abcb", nil, 2},
		{"aaaaaaa", fullOf("a"), nil, 56},
		{"aaaaaaaaaaaa", fullOf("a"), []int{0, 12, 24, 36, 48, 60}, 60},
	} {
		trie := mustTrie(t, sortedSet(strings.Fields(c.words)))
		if got, ok := impl.SplitPlaces(trie, c.passage); !ok || !slices.Equal(got, c.places) {
			t.Errorf("SplitPlaces(%q, %q) = %v, %v", c.words, c.passage, got, ok)
		}
		if got, ok := impl.MostCovered(trie, c.passage); !ok || got != c.most {
			t.Errorf("MostCovered(%q, %q) = %d, %v", c.words, c.passage, got, ok)
		}
	}
}

func TestPromise3MatchesAtPlaces(t *testing.T) {
	trie := mustTrie(t, []string{"", "a", "ab", "abc", "b", "cab"})
	for at, want := range [][]int{{1, 2, 3}, {1}, {3}, {1, 2}, {1}, {}} {
		if got, ok := impl.MatchesAt(trie, "abcab", at); !ok || !slices.Equal(got, want) {
			t.Errorf("MatchesAt(%d) = %v, %v", at, got, ok)
		}
	}
	for _, passage := range []string{"", "a", "abcab", fullOf("a")} {
		n := len(passage)
		for _, at := range []int{-1, -2, n + 1, n + 2, math.MinInt, math.MaxInt, 1 << 32, -1 << 32} {
			if got, ok := impl.MatchesAt(trie, passage, at); ok || len(got) != 0 {
				t.Errorf("MatchesAt(%q, %d) = %v, %v", passage, at, got, ok)
			}
		}
	}
}

// plainUnique returns the shortest beginning of a word with which no other one begins, or the word.
func plainUnique(set []string, w string) string {
	for n := range len(w) {
		if countBeginning(set, w[:n]) == 1 {
			return w[:n]
		}
	}
	return w
}

// plainUnder returns the words that begin with a prefix, and the longest text that all of these
// begin with.
func plainUnder(set []string, prefix string) ([]string, string) {
	under := []string{}
	for _, w := range set {
		if strings.HasPrefix(w, prefix) {
			under = append(under, w)
		}
	}
	if len(under) == 0 {
		return under, ""
	}
	n := len(under[0])
	for countBeginning(under, under[0][:n]) < len(under) {
		n--
	}
	return under, under[0][:n]
}

func TestPromise3Prefixes(t *testing.T) {
	for _, set := range someSets() {
		trie := mustTrie(t, set)
		_, shared := plainUnder(set, "")
		if got, ok := impl.SharedPrefix(trie); ok != (len(set) > 0) || got != shared {
			t.Fatalf("SharedPrefix(%q) = %q, %v", set, got, ok)
		}
		for _, w := range nearTexts(set) {
			under, full := plainUnder(set, w)
			if got, ok := impl.WordsUnder(trie, w); !ok || !slices.Equal(got, under) {
				t.Fatalf("WordsUnder(%q, %q) = %q, %v", set, w, got, ok)
			}
			if got, ok := impl.CompleteTo(trie, w); ok != (len(under) > 0) || got != full {
				t.Fatalf("CompleteTo(%q, %q) = %q, %v", set, w, got, ok)
			}
			has, unique := slices.Contains(set, w), ""
			if has {
				unique = plainUnique(set, w)
			}
			if got, ok := impl.UniquePrefix(trie, w); ok != has || got != unique {
				t.Fatalf("UniquePrefix(%q, %q) = %q, %v", set, w, got, ok)
			}
		}
	}
}

func TestPromise3UniquePrefix(t *testing.T) {
	for _, c := range []struct{ words, w, want string }{
		{"a ab abc b cab", "cab", "c"}, {"a ab abc b cab", "a", "a"}, {"a ab abc b cab", "ab", "ab"},
		{"a ab abc b cab", "abc", "abc"}, {"a ab abc b cab", "b", "b"}, {"card care cat dog", "dog", "d"},
		{"card care cat dog", "card", "card"}, {"card care cat dog", "cat", "cat"},
		{"card care cathode", "cathode", "cat"}, {"abcdefghijkl abcdefghijkm", "abcdefghijkl", "abcdefghijkl"},
		{"abcdefghijkl abcdefghijk", "abcdefghijkl", "abcdefghijkl"},
		{"abcdefghijkl abcdefghijk", "abcdefghijk", "abcdefghijk"},
		// No other word begins with the empty text if there is no other word.
		{"abc", "abc", ""}, {"z", "z", ""},
	} {
		trie := mustTrie(t, sortedSet(strings.Fields(c.words)))
		if got, ok := impl.UniquePrefix(trie, c.w); !ok || got != c.want {
			t.Errorf("UniquePrefix(%q, %q) = %q, %v", c.words, c.w, got, ok)
		}
	}
	for _, set := range [][]string{{""}, {"", "a"}, {"", "abc", "b"}} {
		if got, ok := impl.UniquePrefix(mustTrie(t, set), ""); !ok || got != "" {
			t.Errorf("UniquePrefix(%q) of the empty word = %q, %v", set, got, ok)
		}
	}
	trie := mustTrie(t, []string{"", "abc"})
	if got, ok := impl.UniquePrefix(trie, "abc"); !ok || got != "a" {
		t.Errorf("UniquePrefix beside the empty word = %q, %v", got, ok)
	}
	for _, w := range []string{"a", "ab", "abcd", "b", "zz"} {
		if got, ok := impl.UniquePrefix(trie, w); ok || got != "" {
			t.Errorf("UniquePrefix of %q, which is no word of the Trie, = %q, %v", w, got, ok)
		}
	}
}

// notPassages are texts that are no passages.
var notPassages = []string{
	"A", "aB", "a b", " ", "a ", "ab.", "-", "0", "`", "{", "a`", "{a", "\x00", "a\x00", "\n", "\xff", "a\xe0",
	"\u00e9", "\u0430", "\uff41", "\u017f", fullOf("a") + "a", fullOf("ab") + "z", fullOf("a") + "A",
	strings.Repeat("a", 256+1), strings.Repeat("a", 100000), fullOf("a")[2:] + "\u00e9", fullOf("a")[1:] + "Z",
}

// checkNoPassage checks that the functions of a passage fail.
func checkNoPassage(t *testing.T, name string, trie impl.Trie, passage string) {
	t.Helper()
	if w, ok := impl.LongestMatch(trie, passage); ok || w != "" {
		t.Errorf("%s: LongestMatch(%.20q) = %q, %v", name, passage, w, ok)
	}
	for _, at := range []int{-1, 0, 1, len(passage), len(passage) + 1} {
		if list, ok := impl.MatchesAt(trie, passage, at); ok || len(list) != 0 {
			t.Errorf("%s: MatchesAt(%.20q, %d) = %v, %v", name, passage, at, list, ok)
		}
	}
	if pairs, ok := impl.StandingWords(trie, passage); ok || len(pairs) != 0 {
		t.Errorf("%s: StandingWords(%.20q) = %v, %v", name, passage, pairs, ok)
	}
	for i, f := range []func(impl.Trie, string) (int, bool){impl.CountSplits, impl.MostCovered} {
		if n, ok := f(trie, passage); ok || n != 0 {
			t.Errorf("%s: count %d of %.20q = %d, %v", name, i, passage, n, ok)
		}
	}
	if split, ok := impl.BestSplit(trie, passage); ok || len(split) != 0 {
		t.Errorf("%s: BestSplit(%.20q) = %q, %v", name, passage, split, ok)
	}
	if split, left, ok := impl.GreedySplit(trie, passage); ok || len(split) != 0 || left != 0 {
		t.Errorf("%s: GreedySplit(%.20q) = %q, %d, %v", name, passage, split, left, ok)
	}
	if places, ok := impl.SplitPlaces(trie, passage); ok || len(places) != 0 {
		t.Errorf("%s: SplitPlaces(%.20q) = %v, %v", name, passage, places, ok)
	}
}

// checkNoPrefix checks that the functions of a word or a prefix fail.
func checkNoPrefix(t *testing.T, name string, trie impl.Trie, w string) {
	t.Helper()
	if s, ok := impl.UniquePrefix(trie, w); ok || s != "" {
		t.Errorf("%s: UniquePrefix(%.20q) = %q, %v", name, w, s, ok)
	}
	if s, ok := impl.CompleteTo(trie, w); ok || s != "" {
		t.Errorf("%s: CompleteTo(%.20q) = %q, %v", name, w, s, ok)
	}
	if list, ok := impl.WordsUnder(trie, w); ok || len(list) != 0 {
		t.Errorf("%s: WordsUnder(%.20q) = %q, %v", name, w, list, ok)
	}
}

func TestPromise3InvalidTriesFail(t *testing.T) {
	for name, bad := range badTries() {
		if s, ok := impl.SharedPrefix(bad); ok || s != "" {
			t.Errorf("%s: SharedPrefix = %q, %v", name, s, ok)
		}
		for _, text := range []string{"", "a", "ab", "abc", "b", "z", "abcab", fullOf("a"), fullOf("am")} {
			checkNoPassage(t, name, bad, text)
			checkNoPrefix(t, name, bad, text)
		}
	}
}

func TestPromise3InvalidTextsFail(t *testing.T) {
	for _, set := range [][]string{{}, {""}, {"a", "ab"}, chainWords(13), manyWords(impl.MaxWords)} {
		trie := mustTrie(t, set)
		for _, passage := range notPassages {
			checkNoPassage(t, "valid", trie, passage)
		}
		for _, w := range notWords {
			checkNoPrefix(t, "valid", trie, w)
		}
	}
	trie := mustTrie(t, []string{"a"})
	for c := range 256 {
		isLetter := c >= 'a' && c <= 'z'
		for _, passage := range []string{"\x01", "\x01a", "a\x01", fullOf("a")[1:] + "\x01"} {
			passage = strings.Replace(passage, "\x01", string([]byte{byte(c)}), 1)
			if _, ok := impl.CountSplits(trie, passage); ok != isLetter {
				t.Errorf("CountSplits(%q): %v", passage, ok)
			}
		}
	}
	for n := range 2 * impl.MaxPassage {
		_, ok := impl.CountSplits(trie, strings.Repeat("a", n))
		_, fine := impl.WordsUnder(trie, strings.Repeat("a", n))
		if ok != (n <= impl.MaxPassage) || fine != (n <= impl.MaxLetters) {
			t.Errorf("texts of %d letters: %v as a passage, %v as a prefix", n, ok, fine)
		}
	}
}

// splitAnswer is a result of any function of chapter 3.
type splitAnswer struct {
	answer
	pairs [][2]int
}

func sameSplitAnswer(a, b splitAnswer) bool {
	return sameAnswer(a.answer, b.answer) && slices.Equal(a.pairs, b.pairs)
}

// splitAnswersOf calls all functions of chapter 3 with a Trie.
func splitAnswersOf(trie impl.Trie, texts []string, numbers []int) []splitAnswer {
	all := []splitAnswer{}
	add := func(a answer) { all = append(all, splitAnswer{answer: a}) }
	shared, ok := impl.SharedPrefix(trie)
	add(answer{ok: ok, text: shared})
	for _, s := range texts {
		for _, f := range []func(impl.Trie, string) (string, bool){impl.LongestMatch, impl.UniquePrefix, impl.CompleteTo} {
			text, ok := f(trie, s)
			add(answer{ok: ok, text: text})
		}
		for _, f := range []func(impl.Trie, string) ([]string, bool){impl.WordsUnder, impl.BestSplit} {
			list, ok := f(trie, s)
			add(answer{ok: ok, list: list})
		}
		for _, f := range []func(impl.Trie, string) (int, bool){impl.CountSplits, impl.MostCovered} {
			n, ok := f(trie, s)
			add(answer{ok: ok, number: n})
		}
		for _, at := range numbers {
			places, ok := impl.MatchesAt(trie, s, at)
			add(answer{ok: ok, places: places})
		}
		places, ok := impl.SplitPlaces(trie, s)
		add(answer{ok: ok, places: places})
		list, left, ok := impl.GreedySplit(trie, s)
		add(answer{ok: ok, list: list, number: left})
		pairs, ok := impl.StandingWords(trie, s)
		all = append(all, splitAnswer{answer: answer{ok: ok}, pairs: pairs})
	}
	return all
}

func TestPromise13PrefixesReturnForAllArguments(t *testing.T) {
	tries := badTries()
	for _, set := range edgeSets() {
		tries["of "+strings.Join(set, " ")] = plainTrie(set)
	}
	texts := slices.Concat([]string{"", "a", "ab", "abcab", fullOf("a"), fullOf("abc")}, notWords, notPassages)
	numbers := []int{math.MinInt, -1 << 32, -1, 0, 1, 59, 60, 61, 1 << 32, math.MaxInt}
	for name, trie := range tries {
		before := copyTrie(trie)
		first := splitAnswersOf(trie, texts, numbers)
		again := splitAnswersOf(trie, texts, numbers)
		if !slices.EqualFunc(first, again, sameSplitAnswer) {
			t.Errorf("%.20q: other results for the same arguments", name)
		}
		if !sameTrie(trie, before) {
			t.Errorf("%.20q: the Trie is modified", name)
		}
	}
}

func TestPromise13PrefixesLeaveTheTrieAsItWas(t *testing.T) {
	for _, set := range edgeSets() {
		// Room behind the Nodes of an argument belongs to the caller.
		room := append(plainTrie(set).Nodes, nodeWith(5, 5, true), nodeWith(6, 6, true))
		before := slices.Clone(room)
		trie := impl.Trie{Nodes: room[:len(room)-2]}
		splitAnswersOf(trie, append([]string{"a", "ab", fullOf("ab"), "A"}, set...), []int{-1, 0, 1, 2, 500})
		if !slices.Equal(room, before) {
			t.Fatalf("a function modified the Trie of %q", set)
		}
	}
}

func TestPromise13PrefixResultsShareNothing(t *testing.T) {
	for _, set := range edgeSets() {
		trie := plainTrie(set)
		for _, text := range append([]string{"", "a", "ab", "abcab"}, set...) {
			want := splitAnswersOf(trie, []string{text}, []int{0, 1})
			for _, a := range splitAnswersOf(trie, []string{text}, []int{0, 1}) {
				spoil(a.list, "spoilt")
				spoil(a.places, 99)
				spoil(a.pairs, [2]int{99, 99})
			}
			again := splitAnswersOf(trie, []string{text}, []int{0, 1})
			if !slices.EqualFunc(again, want, sameSplitAnswer) || !sameTrie(trie, plainTrie(set)) {
				t.Fatalf("%q, %q: a changed result changes another one, or the argument", set, text)
			}
		}
	}
}
