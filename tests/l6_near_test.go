package tests

import (
	"math"
	"regexp"
	"slices"
	"strings"
	"testing"

	"loop.example/g01243/impl"
)

// plainDistance returns the distance of two words: their last letters are the same, or one of them
// is put in, taken out or put in the place of the other one.
func plainDistance(a, b string) int {
	told := map[[2]int]int{}
	var tell func(i, j int) int
	tell = func(i, j int) int {
		if i == 0 || j == 0 {
			return i + j
		}
		if least, known := told[[2]int{i, j}]; known {
			return least
		}
		least := tell(i-1, j-1)
		if a[i-1] != b[j-1] {
			least = 1 + min(least, tell(i-1, j), tell(i, j-1))
		}
		told[[2]int{i, j}] = least
		return least
	}
	return tell(len(a), len(b))
}

// plainEdits returns all texts that come of a text by one edit with some letters.
func plainEdits(text, letters string) []string {
	edits := []string{}
	for at := range len(text) + 1 {
		for i := range len(letters) {
			edits = append(edits, text[:at]+letters[i:i+1]+text[at:])
			if at < len(text) && text[at] != letters[i] {
				edits = append(edits, text[:at]+letters[i:i+1]+text[at+1:])
			}
		}
		if at < len(text) {
			edits = append(edits, text[:at]+text[at+1:])
		}
	}
	return sortedSet(edits)
}

// walkedDistances returns for all texts that can be come to from a word by up to n edits, over
// texts of any length, how many are needed.
func walkedDistances(w, letters string, n int) map[string]int {
	walked := map[string]int{w: 0}
	last := []string{w}
	for edits := 1; edits <= n; edits++ {
		next := []string{}
		for _, text := range last {
			for _, other := range plainEdits(text, letters) {
				if _, known := walked[other]; !known {
					walked[other] = edits
					next = append(next, other)
				}
			}
		}
		last = next
	}
	return walked
}

// plainDifference returns the number of places with other letters.
func plainDifference(a, b string) int {
	places := 0
	for i := range len(a) {
		if a[i:i+1] != b[i:i+1] {
			places++
		}
	}
	return places
}

// plainCommon returns the greatest number of letters, chosen out of a, that b has in this order.
func plainCommon(a, b string) int {
	most := 0
	for bits := range 1 << len(a) {
		rest, count := b, 0
		for i := range len(a) {
			if bits>>i&1 == 0 {
				continue
			}
			_, behind, found := strings.Cut(rest, a[i:i+1])
			if !found {
				count = -1
				break
			}
			rest = behind
			count++
		}
		most = max(most, count)
	}
	return most
}

// plainPattern returns the expression of the words that a pattern fits.
func plainPattern(p string) *regexp.Regexp {
	return regexp.MustCompile("^" + strings.NewReplacer("?", "[a-z]", "*", "[a-z]*").Replace(p) + "$")
}

var stretches = regexp.MustCompile("[?*]+")

// plainOfPattern returns the pattern with each stretch of signs put in order.
func plainOfPattern(p string) string {
	return stretches.ReplaceAllStringFunc(p, func(stretch string) string {
		plain := strings.ReplaceAll(stretch, "*", "")
		if plain != stretch {
			plain += "*"
		}
		return plain
	})
}

// fullRow returns a text of the most letters that a word may have, made of the letters in turns.
func fullRow(letters string) string {
	return strings.Repeat(letters, impl.MaxLetters)[:impl.MaxLetters]
}

// edgeWords are words at the edges of what a word may be.
func edgeWords() []string {
	return []string{
		"", "a", "z", "ab", "ba", "aab", "abb", "abcdefghijkl", "bcdefghijklm", "lkjihgfedcba",
		fullRow("a"), fullRow("b"), fullRow("z"), fullRow("ab"), fullRow("ba"), fullRow("abc"), fullRow("bca"),
		fullRow("a")[1:], fullRow("ab")[1:], fullRow("ab")[:11], "aaaaaabbbbbb", "bbbbbbaaaaaa", "mmmmmm",
	}
}

// someWordPairs returns pairs of words: of all edges, of all short words, and mixed ones.
func someWordPairs() [][2]string {
	pairs := [][2]string{}
	for _, words := range [][]string{edgeWords(), textsOver("ab", 4), textsOver("abc", 2)} {
		for _, a := range words {
			for _, b := range words {
				pairs = append(pairs, [2]string{a, b})
			}
		}
	}
	m := mixed(23)
	for n := range 300 {
		letters := 1 + n%6
		pairs = append(pairs, [2]string{mixedText(&m, letters, impl.MaxLetters), mixedText(&m, letters, impl.MaxLetters)})
		// The next ones are near to each other, as one is made of the other one.
		w := mixedText(&m, letters, impl.MaxLetters)
		near := w
		for range 1 + n%4 {
			edits := plainEdits(near, "abz")
			near = edits[m.below(len(edits))]
		}
		if len(near) <= impl.MaxLetters {
			pairs = append(pairs, [2]string{w, near}, [2]string{near, w})
		}
	}
	return pairs
}

// mixedText returns a text of the first letters, of up to size of them.
func mixedText(m *mixed, letters, size int) string {
	w := ""
	for range m.below(size + 1) {
		w += string(rune('a' + m.below(letters)))
	}
	return w
}

func mustDistance(t *testing.T, a, b string) int {
	t.Helper()
	got, ok := impl.DistanceOf(a, b)
	if !ok {
		t.Fatalf("DistanceOf(%q, %q) fails", a, b)
	}
	return got
}

func TestPromise6DistancesOfPairs(t *testing.T) {
	for _, pair := range someWordPairs() {
		a, b := pair[0], pair[1]
		if got, want := mustDistance(t, a, b), plainDistance(a, b); got != want {
			t.Fatalf("DistanceOf(%q, %q) = %d; want %d", a, b, got, want)
		}
	}
}

// TestPromise6DistancesAreTheLeastEdits walks from a word to all others by edits, over longer words
// as well.
func TestPromise6DistancesAreTheLeastEdits(t *testing.T) {
	for _, w := range textsOver("ab", 3) {
		walked := walkedDistances(w, "ab", 4)
		for _, other := range textsOver("ab", 4) {
			if got := mustDistance(t, w, other); got != walked[other] {
				t.Fatalf("DistanceOf(%q, %q) = %d; want %d", w, other, got, walked[other])
			}
		}
	}
	for _, w := range []string{fullRow("ab"), fullRow("abc"), fullRow("a")} {
		for other, edits := range walkedDistances(w, "ab", 2) {
			if len(other) > impl.MaxLetters {
				continue
			}
			if got := mustDistance(t, w, other); got != edits {
				t.Fatalf("DistanceOf(%q, %q) = %d; want %d", w, other, got, edits)
			}
		}
	}
}

func TestPromise6DistanceOf(t *testing.T) {
	for _, c := range []struct {
		a, b string
		want int
	}{
		{"", "", 0}, {"", "a", 1}, {"", "abc", 3}, {"", fullRow("a"), 12}, {"a", "a", 0}, {"a", "b", 1},
		{"ab", "ba", 2}, {"abc", "ac", 1}, {"abc", "abbc", 1}, {"abc", "axc", 1}, {"abc", "bcd", 2},
		{"kitten", "sitting", 3}, {"saturday", "sunday", 3}, {"flaw", "lawn", 2}, {"abcdef", "fedcba", 6},
		{fullRow("a"), fullRow("a"), 0}, {fullRow("a"), fullRow("b"), 12}, {fullRow("ab"), fullRow("ba"), 2},
		{fullRow("abc"), fullRow("bca"), 2}, {"abcdefghijkl", "bcdefghijklm", 2}, {fullRow("a"), fullRow("a")[1:], 1},
		{"abcdefghijkl", "xabcdefghijk", 2}, {"abcdefghijkl", "bcdefghijkl", 1}, {"xyz", "abc", 3}, {"xyz", "abcd", 4},
	} {
		if got := mustDistance(t, c.a, c.b); got != c.want {
			t.Errorf("DistanceOf(%q, %q) = %d; want %d", c.a, c.b, got, c.want)
		}
		if got := mustDistance(t, c.b, c.a); got != c.want {
			t.Errorf("DistanceOf(%q, %q) = %d; want %d", c.b, c.a, got, c.want)
		}
	}
}

// checkTriple checks that no distance of three words is greater than the other two together.
func checkTriple(t *testing.T, a, b, c string) {
	t.Helper()
	direct, first, second := mustDistance(t, a, c), mustDistance(t, a, b), mustDistance(t, b, c)
	if direct > first+second {
		t.Fatalf("%q, %q, %q: the distance of the first and the last one is %d, the others are %d and %d", a, b, c, direct, first, second)
	}
}

func TestPromise6DistancesKeepToTheSumOfTwoOthers(t *testing.T) {
	for _, words := range [][]string{textsOver("ab", 3), edgeWords()} {
		for _, a := range words {
			for _, b := range words {
				for _, c := range words {
					checkTriple(t, a, b, c)
				}
			}
		}
	}
	pairs := someWordPairs()
	for i, pair := range pairs {
		checkTriple(t, pair[0], pairs[(i*7+3)%len(pairs)][1], pair[1])
		same, other := mustDistance(t, pair[0], pair[1]), mustDistance(t, pair[1], pair[0])
		if same != other || (same == 0) != (pair[0] == pair[1]) {
			t.Fatalf("%q and %q: the distances are %d and %d", pair[0], pair[1], same, other)
		}
	}
}

func TestPromise6Differences(t *testing.T) {
	for _, pair := range someWordPairs() {
		a, b := pair[0], pair[1]
		got, ok := impl.DifferenceOf(a, b)
		if len(a) != len(b) {
			if ok || got != 0 {
				t.Fatalf("DifferenceOf(%q, %q) = %d, %v", a, b, got, ok)
			}
			continue
		}
		if !ok || got != plainDifference(a, b) {
			t.Fatalf("DifferenceOf(%q, %q) = %d, %v", a, b, got, ok)
		}
		if far := mustDistance(t, a, b); far > got {
			t.Fatalf("%q and %q: the distance is %d, the difference %d", a, b, far, got)
		}
	}
	for _, c := range []struct {
		a, b string
		want int
		ok   bool
	}{
		{"", "", 0, true}, {"a", "a", 0, true}, {"a", "b", 1, true}, {"abc", "abb", 1, true}, {"ab", "ba", 2, true},
		{fullRow("ab"), fullRow("ba"), 12, true}, {fullRow("a"), fullRow("a"), 0, true}, {"abcdefghijkl", "abcdefghijkm", 1, true},
		{"xbcdefghijkl", "abcdefghijkl", 1, true}, {"", "a", 0, false}, {"a", "", 0, false}, {"ab", "abc", 0, false},
		{fullRow("a"), fullRow("a")[1:], 0, false},
	} {
		if got, ok := impl.DifferenceOf(c.a, c.b); ok != c.ok || got != c.want {
			t.Errorf("DifferenceOf(%q, %q) = %d, %v; want %d, %v", c.a, c.b, got, ok, c.want, c.ok)
		}
	}
}

func TestPromise6LongestCommon(t *testing.T) {
	for _, pair := range someWordPairs() {
		if got, ok := impl.LongestCommon(pair[0], pair[1]); !ok || got != plainCommon(pair[0], pair[1]) {
			t.Fatalf("LongestCommon(%q, %q) = %d, %v", pair[0], pair[1], got, ok)
		}
	}
	for _, c := range []struct {
		a, b string
		want int
	}{
		{"", "", 0}, {"", "abc", 0}, {"abc", "", 0}, {"abc", "xyz", 0}, {"abc", "acb", 2}, {"abc", "abc", 3}, {"abc", "cba", 1},
		{"axbxc", "aybyc", 3}, {"aa", "a", 1}, {"aab", "abb", 2}, {"abcbdab", "bdcaba", 4}, {fullRow("a"), fullRow("a"), 12},
		{fullRow("a"), fullRow("b"), 0}, {fullRow("ab"), fullRow("ba"), 11}, {"abcdefghijkl", "lkjihgfedcba", 1},
		{fullRow("ab"), fullRow("a"), 6}, {"abcdefghijkl", "mabcdefghijk", 11},
	} {
		if got, ok := impl.LongestCommon(c.a, c.b); !ok || got != c.want {
			t.Errorf("LongestCommon(%q, %q) = %d, %v; want %d", c.a, c.b, got, ok, c.want)
		}
	}
}

// checkNear checks what is told of a set of words near to a word.
func checkNear(t *testing.T, trie impl.Trie, set []string, w string) {
	t.Helper()
	aways := map[string]int{}
	for _, other := range set {
		aways[other] = plainDistance(w, other)
	}
	for far := range impl.MaxFar + 1 {
		near := chosen(set, func(other string) bool { return aways[other] <= far })
		if got, ok := impl.NearWords(trie, w, far); !ok || !slices.Equal(got, near) {
			t.Fatalf("NearWords(%q, %q, %d) = %q, %v; want %q", set, w, far, got, ok, near)
		}
		alike := chosen(set, func(other string) bool { return len(other) == len(w) && plainDifference(w, other) <= far })
		if got, ok := impl.AlikeWords(trie, w, far); !ok || !slices.Equal(got, alike) {
			t.Fatalf("AlikeWords(%q, %q, %d) = %q, %v; want %q", set, w, far, got, ok, alike)
		}
	}
	nearest, least := "", impl.MaxLetters+1
	for _, other := range set {
		if aways[other] < least {
			nearest, least = other, aways[other]
		}
	}
	if len(set) == 0 {
		least = 0
	}
	if got, away, ok := impl.NearestWord(trie, w); ok != (len(set) > 0) || got != nearest || away != least {
		t.Fatalf("NearestWord(%q, %q) = %q, %d, %v; want %q, %d", set, w, got, away, ok, nearest, least)
	}
}

func TestPromise6WordsNearToAWord(t *testing.T) {
	m := mixed(31)
	for _, set := range someSets() {
		trie := mustTrie(t, set)
		texts := append(edgeWords(), set[:min(len(set), 6)]...)
		for n := range 8 {
			texts = append(texts, mixedText(&m, 1+n, impl.MaxLetters))
		}
		for _, w := range texts {
			checkNear(t, trie, set, w)
		}
	}
}

func TestPromise6NearWordsOfASmallSet(t *testing.T) {
	for _, set := range subsetsOf([]string{"", "a", "ab", "aba", "b", "bb", "bbbb"}) {
		trie := mustTrie(t, set)
		for _, w := range textsOver("ab", 3) {
			checkNear(t, trie, set, w)
		}
	}
}

func TestPromise6NearWordsOfNoEdits(t *testing.T) {
	for _, set := range someSets() {
		trie := mustTrie(t, set)
		for _, w := range nearTexts(set) {
			want := chosen(set, func(other string) bool { return other == w })
			if got, ok := impl.NearWords(trie, w, 0); !ok || !slices.Equal(got, want) {
				t.Fatalf("NearWords(%q, %q, 0) = %q, %v", set, w, got, ok)
			}
			if got, ok := impl.AlikeWords(trie, w, 0); !ok || !slices.Equal(got, want) {
				t.Fatalf("AlikeWords(%q, %q, 0) = %q, %v", set, w, got, ok)
			}
		}
	}
}

func TestPromise6NearWords(t *testing.T) {
	cats := []string{"", "at", "bat", "cart", "cast", "cat", "coat", "cot", "dog", "tac"}
	long := []string{fullRow("a")[1:], fullRow("a"), fullRow("ba"), fullRow("ab")}
	for _, c := range []struct {
		set         []string
		w           string
		far         int
		near, alike []string
	}{
		{cats, "cat", 0, []string{"cat"}, []string{"cat"}},
		{cats, "cat", 1, []string{"at", "bat", "cart", "cast", "cat", "coat", "cot"}, []string{"bat", "cat", "cot"}},
		{cats, "cat", 2, []string{"at", "bat", "cart", "cast", "cat", "coat", "cot", "tac"}, []string{"bat", "cat", "cot", "tac"}},
		{cats, "cat", 3, cats, []string{"bat", "cat", "cot", "dog", "tac"}},
		{cats, "", 0, []string{""}, []string{""}},
		{cats, "", 1, []string{""}, []string{""}},
		{cats, "", 2, []string{"", "at"}, []string{""}},
		{cats, "", 3, []string{"", "at", "bat", "cat", "cot", "dog", "tac"}, []string{""}},
		{cats, "zzzzzzzz", 3, nil, nil},
		{long, fullRow("ab"), 2, []string{fullRow("ab"), fullRow("ba")}, []string{fullRow("ab")}},
		{long, fullRow("a"), 1, []string{fullRow("a")[1:], fullRow("a")}, []string{fullRow("a")}},
		{nil, "", 0, nil, nil}, {nil, "", 3, nil, nil}, {nil, "a", 3, nil, nil},
		{[]string{""}, "abc", 3, []string{""}, nil}, {[]string{""}, "abcd", 3, nil, nil},
	} {
		trie := mustTrie(t, sortedSet(c.set))
		if got, ok := impl.NearWords(trie, c.w, c.far); !ok || !slices.Equal(got, sortedSet(c.near)) {
			t.Errorf("NearWords(%q, %q, %d) = %q, %v; want %q", c.set, c.w, c.far, got, ok, c.near)
		}
		if got, ok := impl.AlikeWords(trie, c.w, c.far); !ok || !slices.Equal(got, sortedSet(c.alike)) {
			t.Errorf("AlikeWords(%q, %q, %d) = %q, %v; want %q", c.set, c.w, c.far, got, ok, c.alike)
		}
	}
}

func TestPromise6NearestWord(t *testing.T) {
	for _, c := range []struct {
		set   []string
		w     string
		want  string
		least int
		ok    bool
	}{
		{nil, "", "", 0, false}, {nil, "a", "", 0, false},
		{[]string{""}, "", "", 0, true}, {[]string{""}, fullRow("z"), "", 12, true},
		{[]string{fullRow("a")}, "", fullRow("a"), 12, true}, {[]string{fullRow("a")}, fullRow("b"), fullRow("a"), 12, true},
		{[]string{"ab", "abc", "b"}, "abb", "ab", 1, true},
		// Several words have the least distance, and the first one of them is no nearer than others.
		{[]string{"b", "c", "d"}, "a", "b", 1, true}, {[]string{"", "b", "c"}, "a", "", 1, true},
		{[]string{"aab", "ab", "abb"}, "b", "ab", 1, true}, {[]string{"bat", "cart", "cot"}, "cat", "bat", 1, true},
		{[]string{"abcd", "xy", "xyz"}, "xyzz", "xyz", 1, true}, {[]string{"aa", "bb", "cc"}, "cc", "cc", 0, true},
		{[]string{"xx", "yy", "zz"}, "a", "xx", 2, true}, {[]string{"aaaa", "b", "c"}, "zz", "b", 2, true},
		{[]string{"a", "ab", "abc"}, "abc", "abc", 0, true}, {[]string{"a", "ab", "abc"}, "", "a", 1, true},
	} {
		if got, least, ok := impl.NearestWord(mustTrie(t, c.set), c.w); ok != c.ok || got != c.want || least != c.least {
			t.Errorf("NearestWord(%q, %q) = %q, %d, %v; want %q, %d, %v", c.set, c.w, got, least, ok, c.want, c.least, c.ok)
		}
	}
}

func TestPromise6NeighborPairs(t *testing.T) {
	sets := append(someSets(), edgePairs()...)
	for _, set := range append(sets, subsetsOf([]string{"", "a", "ab", "abb", "b", "ba", "bb"})...) {
		want := [][2]int{}
		for i, w := range set {
			for j, other := range set {
				if i < j && plainDistance(w, other) == 1 {
					want = append(want, [2]int{i, j})
				}
			}
		}
		trie := mustTrie(t, set)
		got, ok := impl.NeighborPairs(trie)
		if !ok || !slices.Equal(got, want) {
			t.Fatalf("NeighborPairs(%q) = %v, %v; want %v", set, got, ok, want)
		}
		for _, pair := range got {
			for i, rank := range pair {
				w, _ := impl.WordAt(trie, rank)
				other, _ := impl.WordAt(trie, pair[1-i])
				if near, ok := impl.NearWords(trie, w, 1); !ok || !slices.Contains(near, other) {
					t.Fatalf("%q: %q is not near to %q, its neighbor", set, other, w)
				}
			}
		}
	}
	for _, c := range []struct {
		set  []string
		want [][2]int
	}{
		{nil, nil}, {[]string{""}, nil}, {[]string{"", "a"}, [][2]int{{0, 1}}}, {[]string{"", "ab"}, nil},
		{[]string{"ab", "abc", "b"}, [][2]int{{0, 1}, {0, 2}}}, {[]string{"ab", "ba"}, nil},
		{[]string{"a", "b", "c"}, [][2]int{{0, 1}, {0, 2}, {1, 2}}},
		{[]string{fullRow("a")[1:], fullRow("a"), fullRow("a")[1:] + "b"}, [][2]int{{0, 1}, {0, 2}, {1, 2}}},
		{[]string{fullRow("ab"), fullRow("ba")}, nil},
	} {
		if got, ok := impl.NeighborPairs(mustTrie(t, c.set)); !ok || !slices.Equal(got, c.want) {
			t.Errorf("NeighborPairs(%q) = %v, %v; want %v", c.set, got, ok, c.want)
		}
	}
	// All words of one letter and of none are neighbors.
	if got, ok := impl.NeighborPairs(mustTrie(t, append([]string{""}, letterWords("abcdefghijklmnopqrstuvwxyz")...))); !ok || len(got) != 27*26/2 {
		t.Errorf("%d pairs of words of at most one letter, %v", len(got), ok)
	}
}

// notPatterns are texts that are no patterns.
var notPatterns = []string{
	"A", "aZ", "a b", " ", "* ", "a.", ".*", "a+", "[a]", "(", "^a", "$", "\\", "\\?", "!", "-", "0", "`", "{", "a`", "{a",
	"\x00", "?\x00", "\n", "*\n", "\xff", "a\xe0", "?\x80", "\u00e9", "\u0430", "\uff1f", "\uff0a", "\u2217", "\u017f", "\u00bf",
	strings.Repeat("a", impl.MaxSigns+1), strings.Repeat("?", impl.MaxSigns+1), strings.Repeat("*", impl.MaxSigns+1),
	strings.Repeat("?*", impl.MaxSigns/2) + "a", strings.Repeat("*", 256+1), strings.Repeat("a*", 50000),
	strings.Repeat("?", 100000), strings.Repeat("*", impl.MaxSigns-1) + "\u00e9", strings.Repeat("*", impl.MaxSigns-2) + "\u00e9",
}

// somePatterns returns all short patterns, those at the edges, and mixed ones.
func somePatterns() []string {
	patterns := append(textsOver("ab?*", 4), textsOver("?*", 7)...)
	for n := range impl.MaxSigns + 1 {
		patterns = append(patterns, strings.Repeat("?", n), strings.Repeat("*", n), strings.Repeat("a", n))
		patterns = append(patterns, strings.Repeat("*?", n)[:n], strings.Repeat("*a", n)[:n], strings.Repeat("a*b", n)[:n])
	}
	patterns = append(patterns, "z*z", "?z*", fullRow("ab"), fullRow("ab")+"*", "*"+fullRow("ab")+"*", fullRow("?")+"**", fullRow("?")+"*?")
	m := mixed(41)
	signs := "aabcz??***"
	for range 300 {
		p := ""
		for range m.below(impl.MaxSigns + 1) {
			p += signs[m.below(len(signs)):][:1]
		}
		patterns = append(patterns, p)
	}
	return patterns
}

func TestPromise6IsPattern(t *testing.T) {
	for _, p := range append(somePatterns(), "abcdefghijklmn", "nopqrstuvwxyz?", "az") {
		if !impl.IsPattern(p) {
			t.Errorf("IsPattern(%q) is false", p)
		}
	}
	for _, p := range notPatterns {
		if impl.IsPattern(p) {
			t.Errorf("IsPattern(%.20q) is true", p)
		}
	}
	for c := range 256 {
		isSign := c >= 'a' && c <= 'z' || c == '?' || c == '*'
		for _, p := range []string{"\x01", "\x01a", "*\x01", "?\x01*", "abcdefghijklm\x01"} {
			p = strings.Replace(p, "\x01", string([]byte{byte(c)}), 1)
			if impl.IsPattern(p) != isSign {
				t.Errorf("IsPattern(%q) is %v", p, !isSign)
			}
		}
	}
	for n := range 40 {
		for _, sign := range []string{"a", "?", "*"} {
			if got := impl.IsPattern(strings.Repeat(sign, n)); got != (n <= impl.MaxSigns) {
				t.Errorf("IsPattern of %d times %q is %v", n, sign, got)
			}
		}
	}
}

func TestPromise6PatternsFitWords(t *testing.T) {
	m := mixed(43)
	words := append(textsOver("ab", 4), edgeWords()...)
	for n := range 20 {
		words = append(words, mixedText(&m, 1+n%4, impl.MaxLetters))
	}
	for _, p := range somePatterns() {
		expression := plainPattern(p)
		for _, w := range words {
			if got, ok := impl.DoesFit(p, w); !ok || got != expression.MatchString(w) {
				t.Fatalf("DoesFit(%q, %q) = %v, %v", p, w, got, ok)
			}
		}
	}
}

func TestPromise6DoesFit(t *testing.T) {
	for _, c := range []struct {
		p, w string
		want bool
	}{
		{"", "", true}, {"", "a", false}, {"*", "", true}, {"*", "a", true}, {"*", fullRow("z"), true}, {"?", "", false},
		{"?", "z", true}, {"?", "zz", false}, {"??", "az", true}, {"**************", "", true}, {"**************", fullRow("a"), true},
		{"??????????????", fullRow("a"), false}, {"????????????", fullRow("a"), true}, {"????????????**", fullRow("a"), true},
		{"?????????????*", fullRow("a"), false}, {"*?", "", false}, {"*?", "a", true}, {"*?", "abc", true}, {"?*", "", false}, {"?*", "a", true},
		{"*?*?*", "a", false}, {"*?*?*", "ab", true}, {"*?*?*", "abc", true}, {"a*b", "ab", true}, {"a*b", "axb", true},
		{"a*b", "abab", true}, {"a*b", "aba", false}, {"a*?b", "ab", false}, {"a*?b", "acb", true}, {"a*?", "abc", true},
		{"a**b", "ab", true}, {"*a*", "a", true}, {"*a*", "bbb", false}, {"*aa*", "abaab", true}, {"*aa*", "ababa", false},
		{"a", "", false}, {"a", "a", true}, {"a", "b", false}, {"a", "ab", false}, {"ab", "a", false}, {"*a", "ba", true}, {"*a", "ab", false},
		{"*a*a*a*a*a*a*b", fullRow("a"), false}, {"*************b", fullRow("a"), false}, {"*a*a*a*a*a*a*a", fullRow("a"), true},
		{"abcdefghijklmn", "abcdefghijkl", false}, {"abcdefghijkl**", "abcdefghijkl", true}, {"*abcdefghijkl*", "abcdefghijkl", true},
	} {
		if got, ok := impl.DoesFit(c.p, c.w); !ok || got != c.want {
			t.Errorf("DoesFit(%q, %q) = %v, %v; want %v", c.p, c.w, got, ok, c.want)
		}
	}
}

func TestPromise6FittingWords(t *testing.T) {
	patterns := append(somePatterns()[:120], "z*", "*z", "*m", "a*?", "?*a", "a*l", fullRow("?"), fullRow("?")+"**", "c?t", "ca*", "*t", "*r*", "**************")
	for _, set := range append(edgeSets(), someSets()[60:90]...) {
		trie := mustTrie(t, set)
		for _, p := range patterns {
			want := chosen(set, plainPattern(p).MatchString)
			if got, ok := impl.FittingWords(trie, p); !ok || !slices.Equal(got, want) {
				t.Fatalf("FittingWords(%q, %q) = %q, %v; want %q", set, p, got, ok, want)
			}
		}
		if got, ok := impl.FittingWords(trie, "*"); !ok || !slices.Equal(got, set) {
			t.Fatalf("FittingWords(%q, *) = %q, %v", set, got, ok)
		}
	}
	for _, c := range []struct {
		p    string
		want []string
	}{
		{"", []string{""}}, {"*", []string{"", "card", "care", "cart", "cat", "dog", "door"}}, {"ca*", []string{"card", "care", "cart", "cat"}},
		{"ca?", []string{"cat"}}, {"*?o*", []string{"dog", "door"}}, {"*r", []string{"door"}}, {"????", []string{"card", "care", "cart", "door"}}, {"z*", nil},
	} {
		got, ok := impl.FittingWords(mustTrie(t, []string{"", "card", "care", "cart", "cat", "dog", "door"}), c.p)
		if !ok || !slices.Equal(got, c.want) {
			t.Errorf("FittingWords by %q = %q, %v; want %q", c.p, got, ok, c.want)
		}
	}
}

func TestPromise6PlainPatternsFitTheSameWords(t *testing.T) {
	words := append(textsOver("ab", 4), edgeWords()...)
	for _, p := range somePatterns() {
		plain, ok := impl.PlainPattern(p)
		if !ok || plain != plainOfPattern(p) || !impl.IsPattern(plain) {
			t.Fatalf("PlainPattern(%q) = %q, %v; want %q", p, plain, ok, plainOfPattern(p))
		}
		if again, ok := impl.PlainPattern(plain); !ok || again != plain {
			t.Fatalf("PlainPattern(%q) = %q, %v: it is plain", plain, again, ok)
		}
		for _, w := range words {
			first, ok := impl.DoesFit(p, w)
			second, fine := impl.DoesFit(plain, w)
			if !ok || !fine || first != second {
				t.Fatalf("%q: %q fits is %v, %q fits is %v", w, p, first, plain, second)
			}
		}
	}
	for p, want := range map[string]string{
		"": "", "?": "?", "*": "*", "**": "*", "?*": "?*", "*?": "?*", "*?*": "?*", "*?a*": "?*a*", "a*?b": "a?*b", "a": "a", "a**b**": "a*b*",
		"?*?a?*?": "??*a??*", "*?*?*?*?*?*?*?": "???????*", "**************": "*", "??????????????": "??????????????", "*a?b*?c": "*a?b?*c",
		"*************a": "*a", "a*b*c": "a*b*c", "?a?": "?a?", "*?????????????": "?????????????*", "abcdefghijklm*": "abcdefghijklm*",
	} {
		if got, ok := impl.PlainPattern(p); !ok || got != want {
			t.Errorf("PlainPattern(%q) = %q, %v; want %q", p, got, ok, want)
		}
	}
}

// countRuns returns the number of stretches of the same letter.
func countRuns(w string) int {
	runs := 0
	for i := range len(w) {
		if i == 0 || w[i] != w[i-1] {
			runs++
		}
	}
	return runs
}

// countEdits returns how many words come of a word by one edit, with some different letters: a
// letter that is put in beside an equal one makes the same word on both sides.
func countEdits(w string, letters int) int {
	count := countRuns(w) + len(w)*(letters-1)
	if len(w) < impl.MaxLetters {
		count += len(w)*(letters-1) + letters
	}
	return count
}

func TestPromise6EditsOf(t *testing.T) {
	for w, want := range map[string][]string{
		"": {"a"}, "a": {"", "aa"}, "b": {"", "a", "ab", "ba", "bb"}, "aa": {"a", "aaa"},
		"ab": {"a", "aa", "aab", "aba", "abb", "b", "bab", "bb"}, fullRow("a"): {fullRow("a")[1:]},
		fullRow("a")[1:]: {fullRow("a")[2:], fullRow("a")},
	} {
		if got, ok := impl.EditsOf(w); !ok || !slices.Equal(got, want) {
			t.Errorf("EditsOf(%q) = %q, %v; want %q", w, got, ok, want)
		}
	}
	m := mixed(47)
	words := append(edgeWords(), textsOver("abc", 4)...)
	for n := range 100 {
		words = append(words, mixedText(&m, 1+n%26, impl.MaxLetters), "z"+mixedText(&m, 4, impl.MaxLetters-1))
	}
	for _, w := range words {
		letters := strings.Join(sortedSet(strings.Split(w+"a", "")), "")
		want := chosen(plainEdits(w, letters), impl.IsWord)
		got, ok := impl.EditsOf(w)
		if !ok || !slices.Equal(got, want) || len(got) != countEdits(w, len(letters)) {
			t.Fatalf("EditsOf(%q) = %q, %v; want %q", w, got, ok, want)
		}
		for _, other := range got {
			if !impl.IsWord(other) || strings.Trim(other, letters) != "" || mustDistance(t, w, other) != 1 {
				t.Fatalf("EditsOf(%q) has %q", w, other)
			}
		}
	}
}

// TestPromise6EditsAreAllNeighbors looks at all short words of the letters.
func TestPromise6EditsAreAllNeighbors(t *testing.T) {
	for _, w := range textsOver("abc", 3) {
		letters := strings.Join(sortedSet(strings.Split(w+"a", "")), "")
		want := sortedSet(chosen(textsOver(letters, len(w)+1), func(other string) bool { return plainDistance(w, other) == 1 }))
		if got, ok := impl.EditsOf(w); !ok || !slices.Equal(got, want) {
			t.Fatalf("EditsOf(%q) = %q, %v; want %q", w, got, ok, want)
		}
	}
}

// badFars are numbers outside 0..MaxFar.
var badFars = []int{math.MinInt, -1 << 32, -12, -3, -2, -1, impl.MaxFar + 1, impl.MaxFar + 2, 12, 256, 1 << 32, 1<<32 + 1, math.MaxInt}

// checkNoNear checks that the functions of a Trie, a word and a number fail.
func checkNoNear(t *testing.T, why string, trie impl.Trie, w string, far int) {
	t.Helper()
	if got, ok := impl.NearWords(trie, w, far); ok || len(got) != 0 {
		t.Errorf("%s: NearWords of %.20q and %d = %q, %v", why, w, far, got, ok)
	}
	if got, ok := impl.AlikeWords(trie, w, far); ok || len(got) != 0 {
		t.Errorf("%s: AlikeWords of %.20q and %d = %q, %v", why, w, far, got, ok)
	}
}

func TestPromise6InvalidTriesFail(t *testing.T) {
	for why, bad := range badTries() {
		for _, w := range []string{"", "a", "ab", fullRow("a"), "A"} {
			for _, far := range []int{0, 1, impl.MaxFar, -1, impl.MaxFar + 1} {
				checkNoNear(t, why, bad, w, far)
			}
			if got, least, ok := impl.NearestWord(bad, w); ok || got != "" || least != 0 {
				t.Errorf("%s: NearestWord of %q = %q, %d, %v", why, w, got, least, ok)
			}
		}
		for _, p := range []string{"", "*", "?", "a*", "A"} {
			if got, ok := impl.FittingWords(bad, p); ok || len(got) != 0 {
				t.Errorf("%s: FittingWords by %q = %q, %v", why, p, got, ok)
			}
		}
		if got, ok := impl.NeighborPairs(bad); ok || len(got) != 0 {
			t.Errorf("%s: NeighborPairs = %v, %v", why, got, ok)
		}
	}
}

func TestPromise6InvalidNumbersAndTextsFail(t *testing.T) {
	for _, set := range edgeSets() {
		trie := mustTrie(t, set)
		for _, w := range []string{"", "a", "ab", fullRow("a")} {
			for _, far := range badFars {
				checkNoNear(t, "valid", trie, w, far)
			}
		}
		for _, text := range append([]string{"*", "?", "a?"}, notWords...) {
			for far := range impl.MaxFar + 1 {
				checkNoNear(t, "valid", trie, text, far)
			}
			if got, least, ok := impl.NearestWord(trie, text); ok || got != "" || least != 0 {
				t.Errorf("NearestWord of %.20q = %q, %d, %v", text, got, least, ok)
			}
		}
		for _, p := range notPatterns {
			if got, ok := impl.FittingWords(trie, p); ok || len(got) != 0 {
				t.Errorf("FittingWords by %.20q = %q, %v", p, got, ok)
			}
		}
	}
}

func TestPromise6InvalidTextsFail(t *testing.T) {
	good := []string{"", "a", "ab", fullRow("a")}
	for _, bad := range append([]string{"*", "?", "a?"}, notWords...) {
		for _, w := range append(good, bad) {
			for _, pair := range [][2]string{{w, bad}, {bad, w}} {
				for name, f := range map[string]func(string, string) (int, bool){
					"DistanceOf": impl.DistanceOf, "DifferenceOf": impl.DifferenceOf, "LongestCommon": impl.LongestCommon,
				} {
					if got, ok := f(pair[0], pair[1]); ok || got != 0 {
						t.Errorf("%s(%.20q, %.20q) = %d, %v", name, pair[0], pair[1], got, ok)
					}
				}
			}
		}
		if got, ok := impl.EditsOf(bad); ok || len(got) != 0 {
			t.Errorf("EditsOf(%.20q) = %q, %v", bad, got, ok)
		}
		for _, p := range []string{"", "*", "?", "a*"} {
			if got, ok := impl.DoesFit(p, bad); ok || got {
				t.Errorf("DoesFit(%q, %.20q) = %v, %v", p, bad, got, ok)
			}
		}
	}
	for _, bad := range notPatterns {
		for _, w := range append(good, "A", bad) {
			if got, ok := impl.DoesFit(bad, w); ok || got {
				t.Errorf("DoesFit(%.20q, %.20q) = %v, %v", bad, w, got, ok)
			}
		}
		if got, ok := impl.PlainPattern(bad); ok || got != "" {
			t.Errorf("PlainPattern(%.20q) = %.20q, %v", bad, got, ok)
		}
	}
}

// nearAnswer is a result of any function of chapter 6.
type nearAnswer struct {
	ok     bool
	number int
	text   string
	list   []string
	pairs  [][2]int
}

func sameNearAnswer(a, b nearAnswer) bool {
	return a.ok == b.ok && a.number == b.number && a.text == b.text && slices.Equal(a.list, b.list) && slices.Equal(a.pairs, b.pairs)
}

// nearAnswersOf calls all functions of chapter 6 that take a Trie, with each of some texts and
// numbers.
func nearAnswersOf(trie impl.Trie, texts []string, numbers []int) []nearAnswer {
	pairs, ok := impl.NeighborPairs(trie)
	all := []nearAnswer{{ok: ok, pairs: pairs}}
	for _, text := range texts {
		for _, far := range numbers {
			near, ok := impl.NearWords(trie, text, far)
			alike, fine := impl.AlikeWords(trie, text, far)
			all = append(all, nearAnswer{ok: ok, list: near}, nearAnswer{ok: fine, list: alike})
		}
		nearest, least, ok := impl.NearestWord(trie, text)
		fitting, fine := impl.FittingWords(trie, text)
		all = append(all, nearAnswer{ok: ok, text: nearest, number: least}, nearAnswer{ok: fine, list: fitting})
	}
	return all
}

// textAnswersOf calls all functions of chapter 6 that take just texts, with each of some of them.
func textAnswersOf(texts []string) []nearAnswer {
	all := []nearAnswer{}
	for _, text := range texts {
		edits, ok := impl.EditsOf(text)
		plain, fine := impl.PlainPattern(text)
		all = append(all, nearAnswer{ok: ok, list: edits}, nearAnswer{ok: fine, text: plain}, nearAnswer{ok: impl.IsPattern(text)})
		for _, other := range texts {
			for _, f := range []func(string, string) (int, bool){impl.DistanceOf, impl.DifferenceOf, impl.LongestCommon} {
				n, ok := f(text, other)
				all = append(all, nearAnswer{ok: ok, number: n})
			}
			fits, ok := impl.DoesFit(text, other)
			all = append(all, nearAnswer{ok: ok}, nearAnswer{ok: fits})
		}
	}
	return all
}

func TestPromise13NearWordsReturnForAllArguments(t *testing.T) {
	texts := slices.Concat([]string{"*", "?", "a*", "*?a*", "**************", "*a*a*a*a*a*a*b"}, edgeWords(), notWords, notPatterns)
	if first, again := textAnswersOf(texts), textAnswersOf(texts); !slices.EqualFunc(first, again, sameNearAnswer) {
		t.Error("other results for the same texts")
	}
	tries := badTries()
	for _, set := range edgeSets() {
		tries["of "+strings.Join(set, " ")] = plainTrie(set)
	}
	numbers := append([]int{0, 1, 2, 3}, badFars...)
	for name, trie := range tries {
		before := copyTrie(trie)
		first := nearAnswersOf(trie, texts, numbers)
		if again := nearAnswersOf(trie, texts, numbers); !slices.EqualFunc(first, again, sameNearAnswer) {
			t.Errorf("%.20q: other results for the same arguments", name)
		}
		if !sameTrie(trie, before) {
			t.Errorf("%.20q: the Trie is modified", name)
		}
	}
}

func TestPromise13NearWordsLeaveTheTrieAsItWas(t *testing.T) {
	for _, set := range edgeSets() {
		// Room behind the Nodes of an argument belongs to the caller.
		room := append(plainTrie(set).Nodes, nodeWith(5, 5, true), nodeWith(6, 6, true))
		before := slices.Clone(room)
		trie := impl.Trie{Nodes: room[:len(room)-2]}
		nearAnswersOf(trie, append([]string{"", "a", "*", "a?", "zzz", "A"}, set...), []int{-1, 0, 1, 3, 4})
		if !slices.Equal(room, before) {
			t.Fatalf("a function modified the Trie of %q", set)
		}
	}
}

func TestPromise13NearResultsShareNothing(t *testing.T) {
	texts, numbers := []string{"", "a", "ab", "*", "a*", "ca?", fullRow("a")}, []int{0, 1, 3}
	for _, set := range edgeSets() {
		trie := plainTrie(set)
		want := append(nearAnswersOf(trie, texts, numbers), textAnswersOf(texts)...)
		for _, got := range append(nearAnswersOf(trie, texts, numbers), textAnswersOf(texts)...) {
			spoil(got.list, "spoilt")
			spoil(got.pairs, [2]int{99, 99})
		}
		again := append(nearAnswersOf(trie, texts, numbers), textAnswersOf(texts)...)
		if !slices.EqualFunc(again, want, sameNearAnswer) || !sameTrie(trie, plainTrie(set)) {
			t.Fatalf("%q: a changed result changes another one, or the argument", set)
		}
	}
}
