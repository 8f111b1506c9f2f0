package tests

import (
	"math"
	"slices"
	"strings"
	"testing"

	"loop.example/g01243/impl"
)

// fullLine returns a text of the most letters that has some letters again and again.
func fullLine(letters string) string {
	return strings.Repeat(letters, impl.MaxLine)[:impl.MaxLine]
}

// edgeLines are texts at the edges of what a text of this chapter may be.
func edgeLines() []string {
	lines := []string{
		"", "a", "z", "b", "aa", "zz", "ab", "ba", "aaa", "aba", "abab", "aabaab", "abaaba", "mississippi", "banana", "abracadabra",
		"abcdefghijklmnop", "ponmlkjihgfedcba", "klmnopqrstuvwxyz", "abcdefghhgfedcba", "abcdefghgfedcbaa", "aaaaaaaabaaaaaaa",
		"abcdefghabcdefgh", "abaababaabaababa", "aabbaabbaabbaabb", "aaaabaabbababbbb", "aabacadbbcbddccd", "zyzzyzyzzyzzyzyz",
		fullLine("a"), fullLine("z"), fullLine("ab"), fullLine("abc"), fullLine("abb"), fullLine("azzza"),
		fullLine("a")[1:], fullLine("a")[1:] + "b", "b" + fullLine("a")[1:], fullLine("ab")[1:], fullLine("abcd")[2:],
	}
	for n := range impl.MaxLine {
		lines = append(lines, fullLine("b")[:n], "abcdefghijklmnop"[:n])
	}
	return lines
}

// someLines returns texts of all edges, all short ones of few letters, and mixed ones.
func someLines() []string {
	lines := slices.Concat(edgeLines(), textsOver("ab", 8), textsOver("abc", 5), textsOver("cz", 3))
	m := mixed(83)
	for n := range 400 {
		lines = append(lines, mixedText(&m, 1+n%26, impl.MaxLine))
	}
	for n := range 200 {
		// Of few letters and all of the most of them, so that much repeats.
		line := ""
		for range impl.MaxLine {
			line += string(rune('a' + m.below(2+n%3)))
		}
		lines = append(lines, line)
	}
	return lines
}

// plainStretches returns the letters of all stretches of a text that have n letters, by their places.
func plainStretches(s string, n int) []string {
	stretches := []string{}
	for from := 0; from+n <= len(s); from++ {
		stretches = append(stretches, s[from:from+n])
	}
	return stretches
}

// plainParts returns all substrings of a text but the empty one, in order.
func plainParts(s string) []string {
	parts := []string{}
	for n := 1; n <= len(s); n++ {
		parts = append(parts, plainStretches(s, n)...)
	}
	return sortedSet(parts)
}

// plainOccurs returns the places at which a stretch of a text is the same as a part.
func plainOccurs(s, part string) []int {
	places := []int{}
	for place, stretch := range plainStretches(s, len(part)) {
		if stretch == part {
			places = append(places, place)
		}
	}
	return places
}

// plainCommonStart returns how many letters two texts have in common at their beginnings.
func plainCommonStart(a, b string) int {
	n := 0
	for n < len(a) && strings.HasPrefix(b, a[:n+1]) {
		n++
	}
	return n
}

// plainEndPlaces puts each end behind those that are less.
func plainEndPlaces(s string) []int {
	places := make([]int, len(s))
	for place := range len(s) {
		rank := 0
		for other := range len(s) {
			if s[other:] < s[place:] {
				rank++
			}
		}
		places[rank] = place
	}
	return places
}

// plainRepeat returns the first of the longest texts with which two ends begin.
func plainRepeat(s string) string {
	longest := ""
	for first := range len(s) {
		for second := first + 1; second < len(s); second++ {
			common := s[second : second+plainCommonStart(s[second:], s[first:])]
			if len(common) > len(longest) || len(common) == len(longest) && common < longest {
				longest = common
			}
		}
	}
	return longest
}

// plainOnce returns the first of the shortest stretches that are not empty and occur once.
func plainOnce(s string) string {
	for n := 1; n <= len(s); n++ {
		once := chosen(plainStretches(s, n), func(part string) bool { return len(plainOccurs(s, part)) == 1 })
		if len(once) > 0 {
			return slices.Min(once)
		}
	}
	return ""
}

// plainAbsent counts up all texts of the first letters, the shorter ones first.
func plainAbsent(s string, letters int) string {
	for n := 1; ; n++ {
		all := 1
		for range n {
			all *= letters
		}
		for k := range all {
			text := ""
			for rest, i := k, 0; i < n; rest, i = rest/letters, i+1 {
				text = string(rune('a'+rest%letters)) + text
			}
			if !slices.Contains(plainStretches(s, n), text) {
				return text
			}
		}
	}
}

// plainShared returns the first of the longest stretches of both of two texts.
func plainShared(a, b string) string {
	for n := len(a); n > 0; n-- {
		others := plainStretches(b, n)
		shared := chosen(plainStretches(a, n), func(part string) bool { return slices.Contains(others, part) })
		if len(shared) > 0 {
			return slices.Min(shared)
		}
	}
	return ""
}

// plainSquares returns all squares, by the lengths and the places of their halves.
func plainSquares(s string) []string {
	squares := []string{}
	for half := 1; 2*half <= len(s); half++ {
		for at := 0; at+2*half <= len(s); at++ {
			if s[at:at+half] == s[at+half:at+2*half] {
				squares = append(squares, s[at:at+2*half])
			}
		}
	}
	return sortedSet(squares)
}

// plainTurns returns all substrings that are the same from the last letter to the first one: they
// grow on both sides of each letter, and of each place between two letters.
func plainTurns(s string) []string {
	turns := []string{}
	for middle := range 2 * len(s) {
		from, behind := (middle+1)/2, middle/2+1
		if from < behind {
			turns = append(turns, s[from:behind])
		}
		for from > 0 && behind < len(s) && s[from-1] == s[behind] {
			from, behind = from-1, behind+1
			turns = append(turns, s[from:behind])
		}
	}
	return sortedSet(turns)
}

// sumOf returns the sum of some numbers.
func sumOf(numbers []int) int {
	sum := 0
	for _, n := range numbers {
		sum += n
	}
	return sum
}

// mustCount returns the number of substrings of a text.
func mustCount(t *testing.T, s string) int {
	t.Helper()
	count, ok := impl.CountSubstrings(s)
	if !ok {
		t.Fatalf("CountSubstrings(%q) fails", s)
	}
	return count
}

func TestPromise8IsText(t *testing.T) {
	for _, s := range someLines() {
		if !impl.IsText(s) {
			t.Errorf("IsText(%q) is false", s)
		}
	}
	for _, s := range notLines {
		if impl.IsText(s) {
			t.Errorf("IsText(%.20q) is true", s)
		}
	}
	for c := range 256 {
		isLetter := c >= 'a' && c <= 'z'
		for _, s := range []string{"\x01", "\x01a", "a\x01", "abcdefghijklmno\x01", "\x01bcdefghijklmnop"} {
			s = strings.Replace(s, "\x01", string([]byte{byte(c)}), 1)
			if impl.IsText(s) != isLetter {
				t.Errorf("IsText(%q) is %v", s, !isLetter)
			}
		}
	}
	for n := range 40 {
		if s := strings.Repeat("q", n); impl.IsText(s) != (n <= 16) {
			t.Errorf("IsText of %d letters is %v", n, n > 16)
		}
	}
}

func TestPromise8SubstringsOfLines(t *testing.T) {
	for _, s := range someLines() {
		want := plainParts(s)
		if got, ok := impl.SubstringsOf(s); !ok || !slices.Equal(got, want) {
			t.Fatalf("SubstringsOf(%q) = %q, %v; want %q", s, got, ok, want)
		}
		if got := mustCount(t, s); got != len(want) {
			t.Fatalf("CountSubstrings(%q) = %d; want %d", s, got, len(want))
		}
		lengths := []int{1}
		for n := 1; n <= len(s); n++ {
			lengths = append(lengths, len(sortedSet(plainStretches(s, n))))
		}
		if got, ok := impl.CountOfLength(s); !ok || !slices.Equal(got, lengths) {
			t.Fatalf("CountOfLength(%q) = %v, %v; want %v", s, got, ok, lengths)
		}
	}
}

func TestPromise8SubstringsOf(t *testing.T) {
	for s, want := range map[string][]string{
		"": {}, "a": {"a"}, "z": {"z"}, "aa": {"a", "aa"}, "ab": {"a", "ab", "b"}, "ba": {"a", "b", "ba"},
		"aaaa": {"a", "aa", "aaa", "aaaa"}, "abc": {"a", "ab", "abc", "b", "bc", "c"}, "aba": {"a", "ab", "aba", "b", "ba"},
		"abab": {"a", "ab", "aba", "abab", "b", "ba", "bab"}, "zaz": {"a", "az", "z", "za", "zaz"}, "aab": {"a", "aa", "aab", "ab", "b"},
	} {
		if got, ok := impl.SubstringsOf(s); !ok || !slices.Equal(got, want) {
			t.Errorf("SubstringsOf(%q) = %q, %v; want %q", s, got, ok, want)
		}
	}
	if got, ok := impl.SubstringsOf(fullLine("a")); !ok || len(got) != 16 || got[0] != "a" || got[15] != fullLine("a") {
		t.Errorf("SubstringsOf of one letter many times = %q, %v", got, ok)
	}
}

func TestPromise8CountSubstrings(t *testing.T) {
	for s, want := range map[string]int{
		"": 0, "a": 1, "z": 1, "aa": 2, "ab": 3, "aba": 5, "abab": 7, "abc": 6, "banana": 15, "mississippi": 53,
		fullLine("a"): 16, fullLine("z"): 16, fullLine("ab"): 31, "abcdefghijklmnop": 136, "ponmlkjihgfedcba": 136,
		fullLine("a")[1:] + "b": 31, "b" + fullLine("a")[1:]: 31,
	} {
		if got := mustCount(t, s); got != want {
			t.Errorf("CountSubstrings(%q) = %d; want %d", s, got, want)
		}
	}
	for s, want := range map[string][]int{
		"": {1}, "a": {1, 1}, "aa": {1, 1, 1}, "ab": {1, 2, 1}, "abab": {1, 2, 2, 2, 1}, "abc": {1, 3, 2, 1}, "aab": {1, 2, 2, 1},
		"banana": {1, 3, 3, 3, 3, 2, 1}, fullLine("a"): slices.Repeat([]int{1}, 17),
		fullLine("ab"):     append(append([]int{1}, slices.Repeat([]int{2}, 15)...), 1),
		"abcdefghijklmnop": {1, 16, 15, 14, 13, 12, 11, 10, 9, 8, 7, 6, 5, 4, 3, 2, 1},
	} {
		if got, ok := impl.CountOfLength(s); !ok || !slices.Equal(got, want) {
			t.Errorf("CountOfLength(%q) = %v, %v; want %v", s, got, ok, want)
		}
	}
}

// TestPromise8SubstringsAreStretchesLessCommonLetters holds what the functions tell against each
// other, as the promise says it.
func TestPromise8SubstringsAreStretchesLessCommonLetters(t *testing.T) {
	for _, s := range someLines() {
		count, n := mustCount(t, s), len(s)
		common, ok := impl.CommonWithNext(s)
		if !ok || count != n*(n+1)/2-sumOf(common) {
			t.Fatalf("%q: %d substrings; the ends have %v in common, %v", s, count, common, ok)
		}
		parts, ok := impl.SubstringsOf(s)
		if !ok || count != len(parts) || !slices.IsSorted(parts) {
			t.Fatalf("%q: %d substrings; %q, %v", s, count, parts, ok)
		}
		lengths, ok := impl.CountOfLength(s)
		if !ok || len(lengths) != n+1 || count != sumOf(lengths)-1 {
			t.Fatalf("%q: %d substrings; of the lengths there are %v, %v", s, count, lengths, ok)
		}
		occurs := 0
		for _, part := range parts {
			places, ok := impl.OccursAt(s, part)
			if !ok || len(places) == 0 {
				t.Fatalf("OccursAt(%q, %q) = %v, %v", s, part, places, ok)
			}
			occurs += len(places)
		}
		if occurs != n*(n+1)/2 {
			t.Fatalf("%q: the substrings occur %d times", s, occurs)
		}
		if n < 2 {
			continue
		}
		if repeat, ok := impl.LongestRepeat(s); !ok || len(repeat) != slices.Max(common) {
			t.Fatalf("%q: LongestRepeat = %q, %v; the ends have %v in common", s, repeat, ok, common)
		}
	}
}

func TestPromise8PlacesOfParts(t *testing.T) {
	others := append(textsOver("abz", 2), "aaaa", "abab", fullLine("a"), fullLine("ab"), "abcdefghijklmnop")[1:]
	for _, s := range someLines() {
		for _, part := range append(plainParts(s), others...) {
			want := plainOccurs(s, part)
			if got, ok := impl.OccursAt(s, part); !ok || !slices.Equal(got, want) {
				t.Fatalf("OccursAt(%q, %q) = %v, %v; want %v", s, part, got, ok, want)
			}
		}
	}
	for _, c := range []struct {
		s, part string
		want    []int
	}{
		{"", "a", nil}, {"a", "a", []int{0}}, {"a", "b", nil}, {"a", "aa", nil}, {"abab", "ab", []int{0, 2}}, {"abab", "ba", []int{1}},
		{"aaaa", "aa", []int{0, 1, 2}}, {"ababa", "aba", []int{0, 2}}, {"banana", "ana", []int{1, 3}}, {"banana", "nan", []int{2}},
		{"banana", "bananas", nil}, {"banana", "banana", []int{0}}, {"abc", "cd", nil}, {"abc", "c", []int{2}}, {"abc", "ac", nil},
		{fullLine("a"), fullLine("a"), []int{0}}, {fullLine("a"), fullLine("a")[1:], []int{0, 1}}, {fullLine("a")[1:], fullLine("a"), nil},
		{fullLine("ab"), "abababababab", []int{0, 2, 4}}, {fullLine("a"), "a", []int{0, 1, 2, 3, 4, 5, 6, 7, 8, 9, 10, 11, 12, 13, 14, 15}},
	} {
		if got, ok := impl.OccursAt(c.s, c.part); !ok || !slices.Equal(got, c.want) {
			t.Errorf("OccursAt(%q, %q) = %v, %v; want %v", c.s, c.part, got, ok, c.want)
		}
	}
}

func TestPromise8RepeatsOfLines(t *testing.T) {
	for _, s := range someLines() {
		got, ok := impl.LongestRepeat(s)
		if ok != (len(s) >= 2) || got != plainRepeat(s) {
			t.Fatalf("LongestRepeat(%q) = %q, %v; want %q", s, got, ok, plainRepeat(s))
		}
		got, ok = impl.ShortestOnce(s)
		if ok != (s != "") || got != plainOnce(s) {
			t.Fatalf("ShortestOnce(%q) = %q, %v; want %q", s, got, ok, plainOnce(s))
		}
	}
}

func TestPromise8Repeats(t *testing.T) {
	for _, c := range []struct {
		s, repeat string
		repeats   bool
		once      string
	}{
		// Fewer than two letters have no two places.
		{"", "", false, ""}, {"a", "", false, "a"}, {"z", "", false, "z"},
		{"aa", "a", true, "aa"}, {"ab", "", true, "a"}, {"ba", "", true, "a"}, {"zy", "", true, "y"},
		{"aaa", "aa", true, "aaa"}, {"abab", "ab", true, "ba"}, {"aba", "a", true, "b"}, {"banana", "ana", true, "b"},
		// Of several, the first one in order, wherever it occurs.
		{"bbaa", "a", true, "aa"}, {"baba", "ba", true, "ab"}, {"zzyyzzyy", "zzyy", true, "yz"}, {"bcxbcaabyab", "ab", true, "x"},
		{"abba", "a", true, "ab"}, {"baab", "a", true, "aa"}, {"cdcd", "cd", true, "dc"}, {"dcba", "", true, "a"},
		{"mississippi", "issi", true, "m"}, {"abcdefghabcdefgh", "abcdefgh", true, "ha"},
		{"aabbaabb", "aabb", true, "ba"}, {"abcdefghijklmnop", "", true, "a"}, {"ponmlkjihgfedcba", "", true, "a"},
		{"abcdefghijklmnoa", "a", true, "b"}, {fullLine("a"), fullLine("a")[1:], true, fullLine("a")},
		{fullLine("ab"), "ababababababab", true, "bababababababa"}, {fullLine("a")[1:] + "b", fullLine("a")[2:], true, "b"},
		{"aaaabaabbababbbb", "aaa", true, "baa"},
	} {
		if got, ok := impl.LongestRepeat(c.s); ok != c.repeats || got != c.repeat {
			t.Errorf("LongestRepeat(%q) = %q, %v; want %q", c.s, got, ok, c.repeat)
		}
		if got, ok := impl.ShortestOnce(c.s); ok != (c.s != "") || got != c.once {
			t.Errorf("ShortestOnce(%q) = %q, %v; want %q", c.s, got, ok, c.once)
		}
	}
}

func TestPromise8EndsOfLines(t *testing.T) {
	for _, s := range someLines() {
		places := plainEndPlaces(s)
		got, ok := impl.EndsOf(s)
		if !ok || !slices.Equal(got, places) {
			t.Fatalf("EndsOf(%q) = %v, %v; want %v", s, got, ok, places)
		}
		common := []int{}
		for i := range len(s) - 1 {
			common = append(common, plainCommonStart(s[places[i]:], s[places[i+1]:]))
		}
		if got, ok := impl.CommonWithNext(s); !ok || !slices.Equal(got, common) {
			t.Fatalf("CommonWithNext(%q) = %v, %v; want %v", s, got, ok, common)
		}
	}
}

func TestPromise8EndsOf(t *testing.T) {
	for _, c := range []struct {
		s              string
		places, common []int
	}{
		{"", nil, nil}, {"a", []int{0}, nil}, {"z", []int{0}, nil}, {"ab", []int{0, 1}, []int{0}}, {"ba", []int{1, 0}, []int{0}},
		// Ends that begin with others come behind them.
		{"aa", []int{1, 0}, []int{1}}, {"aaaa", []int{3, 2, 1, 0}, []int{1, 2, 3}}, {"abab", []int{2, 0, 3, 1}, []int{2, 0, 1}},
		{"banana", []int{5, 3, 1, 0, 4, 2}, []int{1, 3, 0, 0, 2}}, {"abcd", []int{0, 1, 2, 3}, []int{0, 0, 0}},
		{"dcba", []int{3, 2, 1, 0}, []int{0, 0, 0}}, {"mississippi", []int{10, 7, 4, 1, 0, 9, 8, 6, 3, 5, 2}, []int{1, 1, 4, 0, 0, 1, 0, 2, 1, 3}},
		{fullLine("a"), []int{15, 14, 13, 12, 11, 10, 9, 8, 7, 6, 5, 4, 3, 2, 1, 0}, []int{1, 2, 3, 4, 5, 6, 7, 8, 9, 10, 11, 12, 13, 14, 15}},
		{"abcdefghijklmnop", []int{0, 1, 2, 3, 4, 5, 6, 7, 8, 9, 10, 11, 12, 13, 14, 15}, make([]int, 15)},
		{fullLine("ab"), []int{14, 12, 10, 8, 6, 4, 2, 0, 15, 13, 11, 9, 7, 5, 3, 1}, []int{2, 4, 6, 8, 10, 12, 14, 0, 1, 3, 5, 7, 9, 11, 13}},
	} {
		if got, ok := impl.EndsOf(c.s); !ok || !slices.Equal(got, c.places) {
			t.Errorf("EndsOf(%q) = %v, %v; want %v", c.s, got, ok, c.places)
		}
		if got, ok := impl.CommonWithNext(c.s); !ok || !slices.Equal(got, c.common) {
			t.Errorf("CommonWithNext(%q) = %v, %v; want %v", c.s, got, ok, c.common)
		}
	}
}

func TestPromise8AbsentOfLines(t *testing.T) {
	for _, s := range someLines() {
		for letters := 1; letters <= 4; letters++ {
			want := plainAbsent(s, letters)
			if got, ok := impl.ShortestAbsent(s, letters); !ok || got != want {
				t.Fatalf("ShortestAbsent(%q, %d) = %q, %v; want %q", s, letters, got, ok, want)
			}
		}
	}
}

func TestPromise8ShortestAbsent(t *testing.T) {
	for _, c := range []struct {
		s       string
		letters int
		want    string
	}{
		{"", 1, "a"}, {"", 2, "a"}, {"", 3, "a"}, {"", 4, "a"}, {"a", 1, "aa"}, {"a", 2, "b"}, {"a", 4, "b"}, {"b", 1, "a"}, {"b", 4, "a"},
		{"z", 1, "a"}, {"z", 4, "a"}, {"ab", 2, "aa"}, {"ab", 3, "c"}, {"ba", 1, "aa"}, {"abab", 2, "aa"}, {"abc", 4, "d"}, {"dcb", 4, "a"},
		{"abcd", 3, "aa"}, {"abcd", 4, "aa"}, {"aabb", 2, "ba"}, {"aabba", 2, "aaa"}, {"zaazbbzabz", 2, "ba"}, {"dcba", 4, "aa"},
		// Longer than a text may be.
		{fullLine("a"), 1, fullLine("a") + "a"}, {fullLine("a")[1:], 1, fullLine("a")}, {fullLine("a"), 2, "b"},
		{"aaaaaaaabaaaaaaa", 1, "aaaaaaaaa"}, {fullLine("ab"), 1, "aa"}, {fullLine("z"), 1, "a"},
		// All texts of two or three letters are there.
		{"aababbbaaa", 2, "aaaa"}, {"aaaabaabbababbbb", 2, "baaa"}, {"aacbbabcca", 3, "aaa"}, {"aabacadbbcbddccd", 4, "da"},
		{"abcdefghijklmnop", 4, "aa"}, {"bcdabcdabcdabcda", 4, "aa"},
	} {
		if got, ok := impl.ShortestAbsent(c.s, c.letters); !ok || got != c.want {
			t.Errorf("ShortestAbsent(%q, %d) = %q, %v; want %q", c.s, c.letters, got, ok, c.want)
		}
	}
}

func TestPromise8CommonOfLines(t *testing.T) {
	pairs := [][2]string{}
	for _, lines := range [][]string{edgeLines(), textsOver("ab", 5), textsOver("abc", 3)} {
		for _, a := range lines {
			for _, b := range lines {
				pairs = append(pairs, [2]string{a, b})
			}
		}
	}
	m := mixed(89)
	for n := range 600 {
		letters := 1 + n%8
		pairs = append(pairs, [2]string{mixedText(&m, letters, impl.MaxLine), mixedText(&m, letters, impl.MaxLine)})
	}
	for _, pair := range pairs {
		want := plainShared(pair[0], pair[1])
		if got, ok := impl.CommonSubstring(pair[0], pair[1]); !ok || got != want {
			t.Fatalf("CommonSubstring(%q, %q) = %q, %v; want %q", pair[0], pair[1], got, ok, want)
		}
	}
}

func TestPromise8CommonSubstring(t *testing.T) {
	for _, c := range []struct {
		a, b, want string
	}{
		{"", "", ""}, {"", "a", ""}, {"", fullLine("a"), ""}, {"a", "a", "a"}, {"a", "b", ""}, {"abc", "xyz", ""}, {"abab", "bba", "ba"},
		{"abc", "abc", "abc"}, {"abc", "bcd", "bc"}, {"abc", "cba", "a"}, {"aa", "a", "a"}, {"banana", "ananas", "anana"},
		{"mississippi", "missouri", "miss"}, {"abxcd", "cdyab", "ab"}, {"cdxab", "abycd", "ab"}, {"zzaa", "aazz", "aa"}, {"axb", "ab", "a"},
		{fullLine("a"), fullLine("a"), fullLine("a")}, {fullLine("a"), fullLine("b"), ""}, {fullLine("ab"), "b" + fullLine("ab")[1:], fullLine("ab")[1:]},
		{"abcdefghijklmnop", "ponmlkjihgfedcba", "a"}, {"abcdefghijklmnop", "klmnopqrstuvwxyz", "klmnop"}, {"abcdefghabcdefgh", fullLine("abcdefghi"), "abcdefgh"},
	} {
		for _, pair := range [][2]string{{c.a, c.b}, {c.b, c.a}} {
			if got, ok := impl.CommonSubstring(pair[0], pair[1]); !ok || got != c.want {
				t.Errorf("CommonSubstring(%q, %q) = %q, %v; want %q", pair[0], pair[1], got, ok, c.want)
			}
		}
	}
}

func TestPromise8SquaresAndTurnsOfLines(t *testing.T) {
	for _, s := range someLines() {
		squares := plainSquares(s)
		if got, ok := impl.SquaresOf(s); !ok || !slices.Equal(got, squares) {
			t.Fatalf("SquaresOf(%q) = %q, %v; want %q", s, got, ok, squares)
		}
		turns := plainTurns(s)
		got, ok := impl.TurnsBack(s)
		if !ok || !slices.Equal(got, turns) {
			t.Fatalf("TurnsBack(%q) = %q, %v; want %q", s, got, ok, turns)
		}
		if len(got) > len(s) {
			t.Fatalf("TurnsBack(%q) are %d", s, len(got))
		}
	}
}

func TestPromise8SquaresAndTurns(t *testing.T) {
	evenRows := chosen(chainWords(impl.MaxLine + 1)[1:], func(row string) bool { return len(row)%2 == 0 })
	for _, c := range []struct {
		s       string
		squares []string
		turns   []string
	}{
		{"", nil, nil}, {"a", nil, []string{"a"}}, {"z", nil, []string{"z"}}, {"ab", nil, []string{"a", "b"}},
		// Squares of one letter, which overlap if there are more.
		{"aa", []string{"aa"}, []string{"a", "aa"}}, {"aaa", []string{"aa"}, []string{"a", "aa", "aaa"}},
		{"aaaa", []string{"aa", "aaaa"}, []string{"a", "aa", "aaa", "aaaa"}}, {"aabb", []string{"aa", "bb"}, []string{"a", "aa", "b", "bb"}},
		{"zz", []string{"zz"}, []string{"z", "zz"}},
		{fullLine("a"), evenRows, chainWords(impl.MaxLine + 1)[1:]},
		// Squares that overlap.
		{"abab", []string{"abab"}, []string{"a", "aba", "b", "bab"}}, {"ababa", []string{"abab", "baba"}, []string{"a", "aba", "ababa", "b", "bab"}},
		{"abcabcabc", []string{"abcabc", "bcabca", "cabcab"}, []string{"a", "b", "c"}},
		{"aabaab", []string{"aa", "aabaab"}, []string{"a", "aa", "aabaa", "aba", "b", "baab"}},
		{"mississippi", []string{"ississ", "pp", "ss", "ssissi"}, []string{"i", "ippi", "issi", "ississi", "m", "p", "pp", "s", "sis", "ss", "ssiss"}},
		{"abcdefghabcdefgh", []string{"abcdefghabcdefgh"}, strings.Split("abcdefgh", "")},
		// Texts that are the same from the last letter to the first one.
		{"abba", []string{"bb"}, []string{"a", "abba", "b", "bb"}}, {"abcba", nil, []string{"a", "abcba", "b", "bcb", "c"}},
		{"racecar", nil, []string{"a", "aceca", "c", "cec", "e", "r", "racecar"}}, {"abcdefghijklmnop", nil, strings.Split("abcdefghijklmnop", "")},
		{"abcdefghhgfedcba", []string{"hh"}, []string{
			"a", "abcdefghhgfedcba", "b", "bcdefghhgfedcb", "c", "cdefghhgfedc", "d", "defghhgfed", "e", "efghhgfe", "f", "fghhgf", "g", "ghhg", "h", "hh",
		}},
	} {
		if got, ok := impl.SquaresOf(c.s); !ok || !slices.Equal(got, c.squares) {
			t.Errorf("SquaresOf(%q) = %q, %v; want %q", c.s, got, ok, c.squares)
		}
		if got, ok := impl.TurnsBack(c.s); !ok || !slices.Equal(got, c.turns) {
			t.Errorf("TurnsBack(%q) = %q, %v; want %q", c.s, got, ok, c.turns)
		}
	}
}

func TestPromise8SubstringTriesOfLines(t *testing.T) {
	tries := 0
	for _, s := range slices.Concat(someLines(), textsOver("ab", 12)) {
		parts := append([]string{""}, plainParts(s)...)
		trie, ok := impl.SubstringTrie(s)
		if len(parts) > impl.MaxWords || len(s) > impl.MaxLetters {
			if ok || len(trie.Nodes) != 0 {
				t.Fatalf("SubstringTrie(%q) = %v, %v", s, trie, ok)
			}
			continue
		}
		tries++
		if !ok || !sameTrie(trie, plainTrie(parts)) || !impl.IsTrie(trie) {
			t.Fatalf("SubstringTrie(%q) = %v, %v", s, trie, ok)
		}
		// One Node for each substring, the empty one as well, and End is true in all.
		if len(trie.Nodes) != mustCount(t, s)+1 {
			t.Fatalf("SubstringTrie(%q) has %d Nodes", s, len(trie.Nodes))
		}
		for place, node := range trie.Nodes {
			if prefix, ok := impl.PrefixOf(trie, place); !ok || !node.End || prefix != parts[place] {
				t.Fatalf("SubstringTrie(%q): Node %d is %v, its prefix is %q, %v", s, place, node, prefix, ok)
			}
		}
	}
	if tries < 1000 {
		t.Errorf("only %d Tries", tries)
	}
}

func TestPromise8SubstringTrieAtItsBounds(t *testing.T) {
	for _, c := range []struct {
		s     string
		nodes int
	}{
		{"", 1}, {"a", 2}, {"z", 2}, {"ab", 4}, {"aa", 3}, {"abab", 8}, {"abcdefgh", 37},
		// Just as many as a Trie may have words.
		{"aaaabcdef", 40}, {"aaabaacde", 40}, {"aaaaaabacd", 40}, {"aaaaaaabaaa", 40}, {"aaaaaaaaabbb", 40}, {"aaaaaaaaabaa", 40},
		// One more.
		{"aaabacade", 0}, {"aaaaaabcde", 0}, {"ababababbba", 0}, {"aaaaaaaaabba", 0}, {"aabbaabbaabb", 0},
		{"aaabacdef", 0}, {"abcdefghi", 0},
		// As long as a word may be, and one letter longer.
		{fullRow("a"), 13}, {fullRow("z"), 13}, {fullRow("ab"), 24}, {fullRow("a") + "a", 0}, {fullRow("ab") + "a", 0}, {fullRow("z") + "z", 0},
		{fullLine("a"), 0}, {fullLine("ab"), 0}, {"abcdefghijkl", 0}, {"abcdefghijklm", 0}, {"abcdefghijklmnop", 0},
	} {
		trie, ok := impl.SubstringTrie(c.s)
		if ok != (c.nodes > 0) || len(trie.Nodes) != c.nodes {
			t.Errorf("SubstringTrie(%q) = %v, %v; want %d Nodes", c.s, trie, ok, c.nodes)
		}
	}
	want := []impl.Node{nodeWith(-1, -1, true), nodeWith(0, 0, true), nodeWith(1, 1, true), nodeWith(1, 0, true)}
	if got, ok := impl.SubstringTrie("ab"); !ok || !slices.Equal(got.Nodes, want) {
		t.Errorf("SubstringTrie of two letters = %v, %v", got, ok)
	}
	if got, ok := impl.SubstringTrie(""); !ok || !slices.Equal(got.Nodes, want[:1]) {
		t.Errorf("SubstringTrie of the empty text = %v, %v", got, ok)
	}
}

// notLines are strings that are no texts of this chapter.
var notLines = []string{
	"A", "Z", "aB", "a b", " ", "a ", "ab.", "-", "0", "`", "{", "a`", "{a", "\x00", "a\x00", "\n", "ab\n", "\xff", "a\xe0", "\x80a",
	"\u00e9", "\u0430", "\uff41", "\u017f", "\ufffd", fullLine("a") + "a", fullLine("ab") + "z", fullLine("a") + "A", fullLine("a")[1:] + "Z",
	fullLine("a")[2:] + "\u00e9", fullLine("a")[1:] + "\u00e9", fullLine("\xff"), strings.Repeat("a", 256), strings.Repeat("a", 256+1),
	strings.Repeat("a", 1<<16+1), strings.Repeat("z", 1000000), strings.Repeat("\xff", 100000),
}

// badAlphabets are numbers outside 1..4.
var badAlphabets = []int{math.MinInt, math.MinInt + 1, -1 << 32, -26, -4, -2, -1, 0, 5, 6, 25, 26, 27, 256, 257, 1 << 32, 1<<32 + 1, math.MaxInt - 1, math.MaxInt}

// lineAnswer is a result of any function of chapter 8, with its name.
type lineAnswer struct {
	answer
	name string
}

func sameLineAnswer(a, b lineAnswer) bool {
	return a.name == b.name && sameAnswer(a.answer, b.answer)
}

// lineAnswersOf calls all functions of chapter 8 that take just one text.
func lineAnswersOf(s string) []lineAnswer {
	all := []lineAnswer{{answer{ok: impl.IsText(s)}, "IsText"}}
	lists := []func(string) ([]string, bool){impl.SubstringsOf, impl.SquaresOf, impl.TurnsBack}
	for i, name := range []string{"SubstringsOf", "SquaresOf", "TurnsBack"} {
		list, ok := lists[i](s)
		all = append(all, lineAnswer{answer{ok: ok, list: list}, name})
	}
	numbers := []func(string) ([]int, bool){impl.CountOfLength, impl.EndsOf, impl.CommonWithNext}
	for i, name := range []string{"CountOfLength", "EndsOf", "CommonWithNext"} {
		places, ok := numbers[i](s)
		all = append(all, lineAnswer{answer{ok: ok, places: places}, name})
	}
	texts := []func(string) (string, bool){impl.LongestRepeat, impl.ShortestOnce}
	for i, name := range []string{"LongestRepeat", "ShortestOnce"} {
		text, ok := texts[i](s)
		all = append(all, lineAnswer{answer{ok: ok, text: text}, name})
	}
	count, ok := impl.CountSubstrings(s)
	all = append(all, lineAnswer{answer{ok: ok, number: count}, "CountSubstrings"})
	trie, ok := impl.SubstringTrie(s)
	return append(all, lineAnswer{answer{ok: ok, trie: trie}, "SubstringTrie"})
}

// linePairAnswersOf calls all functions of chapter 8 that take two texts.
func linePairAnswersOf(a, b string) []lineAnswer {
	places, ok := impl.OccursAt(a, b)
	common, fine := impl.CommonSubstring(a, b)
	return []lineAnswer{{answer{ok: ok, places: places}, "OccursAt"}, {answer{ok: fine, text: common}, "CommonSubstring"}}
}

// absentAnswersOf calls ShortestAbsent with some numbers.
func absentAnswersOf(s string, numbers []int) []lineAnswer {
	all := []lineAnswer{}
	for _, letters := range numbers {
		text, ok := impl.ShortestAbsent(s, letters)
		all = append(all, lineAnswer{answer{ok: ok, text: text}, "ShortestAbsent"})
	}
	return all
}

// checkAllZero checks that all results are those of functions that fail.
func checkAllZero(t *testing.T, why string, all []lineAnswer) {
	t.Helper()
	for _, a := range all {
		if !sameAnswer(a.answer, answer{}) {
			t.Errorf("%s of %.40q = %v", a.name, why, a.answer)
		}
	}
}

func TestPromise8InvalidTextsFail(t *testing.T) {
	for _, bad := range notLines {
		checkAllZero(t, bad, lineAnswersOf(bad))
		checkAllZero(t, bad, absentAnswersOf(bad, append([]int{1, 2, 3, 4}, badAlphabets...)))
		for _, other := range []string{"", "a", "ab", fullLine("a"), "A", bad} {
			checkAllZero(t, other+" and "+bad, linePairAnswersOf(other, bad))
			checkAllZero(t, bad+" and "+other, linePairAnswersOf(bad, other))
		}
	}
}

func TestPromise8InvalidNumbersAndPartsFail(t *testing.T) {
	for _, s := range edgeLines() {
		checkAllZero(t, s, absentAnswersOf(s, badAlphabets))
		if got, ok := impl.OccursAt(s, ""); ok || len(got) != 0 {
			t.Errorf("OccursAt(%q) of the empty part = %v, %v", s, got, ok)
		}
	}
	// The empty text is one, but has nothing that these could return.
	if got, ok := impl.ShortestOnce(""); ok || got != "" {
		t.Errorf("ShortestOnce of the empty text = %q, %v", got, ok)
	}
	for _, s := range []string{"", "a", "z"} {
		if got, ok := impl.LongestRepeat(s); ok || got != "" {
			t.Errorf("LongestRepeat(%q) = %q, %v", s, got, ok)
		}
	}
}

// lineAnswersOfAll calls all functions of chapter 8 with all of some texts and numbers.
func lineAnswersOfAll(texts []string, numbers []int) []lineAnswer {
	all := []lineAnswer{}
	for _, s := range texts {
		all = append(all, lineAnswersOf(s)...)
		all = append(all, absentAnswersOf(s, numbers)...)
		for _, other := range texts {
			all = append(all, linePairAnswersOf(s, other)...)
		}
	}
	return all
}

func TestPromise13SubstringsReturnForAllArguments(t *testing.T) {
	texts := slices.Concat(edgeLines(), notLines, notWords)
	numbers := append([]int{1, 2, 3, 4}, badAlphabets...)
	before := slices.Clone(texts)
	first := lineAnswersOfAll(texts, numbers)
	if again := lineAnswersOfAll(texts, numbers); !slices.EqualFunc(first, again, sameLineAnswer) {
		t.Error("other results for the same arguments")
	}
	if !slices.Equal(texts, before) {
		t.Error("a text is modified")
	}
	for size := range 20 {
		// Each byte, many times: it is a letter, or no text has it.
		for c := range 256 {
			s := string(slices.Repeat([]byte{byte(c)}, size))
			want := size <= impl.MaxLine && (size == 0 || c >= 'a' && c <= 'z')
			if got, ok := impl.SubstringsOf(s); ok != want || ok && len(got) != size || !ok && len(got) != 0 {
				t.Fatalf("SubstringsOf(%q) = %q, %v", s, got, ok)
			}
		}
	}
}

// spoilAnswers overwrites all that some results can reach.
func spoilAnswers(all []lineAnswer) {
	for _, a := range all {
		spoil(a.list, "spoilt")
		spoil(a.places, 99)
		spoil(a.trie.Nodes, nodeWith(9, 9, false))
	}
}

// copyAnswers returns results that share nothing with the given ones.
func copyAnswers(all []lineAnswer) []lineAnswer {
	copies := slices.Clone(all)
	for i, a := range copies {
		copies[i].list = slices.Clone(a.list)
		copies[i].places = slices.Clone(a.places)
		copies[i].trie = copyTrie(a.trie)
	}
	return copies
}

func TestPromise13SubstringResultsShareNothing(t *testing.T) {
	texts, numbers := append(edgeLines(), notLines[:6]...), []int{0, 1, 2, 4}
	kept := lineAnswersOfAll(texts, numbers)
	// Results that are kept from call to call would be spoilt here, too.
	want := copyAnswers(kept)
	spoilAnswers(lineAnswersOfAll(texts, numbers))
	if !slices.EqualFunc(kept, want, sameLineAnswer) {
		t.Error("a changed result changes one that was returned before")
	}
	if again := lineAnswersOfAll(texts, numbers); !slices.EqualFunc(again, want, sameLineAnswer) {
		t.Error("a changed result changes one that is returned later")
	}
}
