package tests

import (
	"math"
	"slices"
	"strings"
	"testing"

	"loop.example/g01243/impl"
)

// The functions of chapter 5, by what they take and return.
var (
	triesOfTwo = map[string]func(impl.Trie, impl.Trie) (impl.Trie, bool){
		"JoinTries": impl.JoinTries, "MeetTries": impl.MeetTries,
		"WithoutTrie": impl.WithoutTrie, "TimesTrie": impl.TimesTrie,
	}
	triesOfOne = map[string]func(impl.Trie) (impl.Trie, bool){
		"CloseTrie": impl.CloseTrie, "FirstWords": impl.FirstWords,
		"LastWords": impl.LastWords, "TurnTrie": impl.TurnTrie,
	}
	reportsOfOne = map[string]func(impl.Trie) (bool, bool){"IsClosed": impl.IsClosed, "IsFree": impl.IsFree}
)

// chosen returns the words that are wanted.
func chosen(words []string, isWanted func(w string) bool) []string {
	list := []string{}
	for _, w := range words {
		if isWanted(w) {
			list = append(list, w)
		}
	}
	return list
}

// plainOfTwo returns the words that a function of two sets of words is to return, in any order and
// any number of times.
func plainOfTwo(name string, a, b []string) []string {
	inB := func(w string) bool { return slices.Contains(b, w) }
	switch name {
	case "JoinTries":
		return append(slices.Clone(a), b...)
	case "MeetTries":
		return chosen(a, inB)
	case "WithoutTrie":
		return chosen(a, func(w string) bool { return !inB(w) })
	}
	products := []string{}
	for _, first := range a {
		for _, second := range b {
			products = append(products, first+second)
		}
	}
	return products
}

// plainOfOne returns the words that a function of a set of words is to return.
func plainOfOne(name string, set []string) []string {
	words := []string{}
	for _, w := range set {
		begun := countBeginning(set, w)
		begins := len(chosen(set, func(other string) bool { return strings.HasPrefix(w, other) }))
		switch {
		case name == "CloseTrie":
			for n := range len(w) + 1 {
				words = append(words, w[:n])
			}
		case name == "TurnTrie":
			turned := ""
			for _, letter := range w {
				turned = string(letter) + turned
			}
			words = append(words, turned)
		case name == "FirstWords" && begins == 1, name == "LastWords" && begun == 1:
			words = append(words, w)
		}
	}
	return words
}

// plainIs tells what a report of a set of words is to say.
func plainIs(name string, set []string) bool {
	for _, w := range set {
		if name == "IsFree" && countBeginning(set, w) > 1 {
			return false
		}
		for n := range w {
			if name == "IsClosed" && !slices.Contains(set, w[:n]) {
				return false
			}
		}
	}
	return true
}

// plainShift returns the words with each letter counted on one by one.
func plainShift(set []string, k int) []string {
	words := slices.Clone(set)
	for i, w := range words {
		letters := []byte(w)
		for range k {
			for j, letter := range letters {
				letters[j] = letter + 1
				if letter == 'z' {
					letters[j] = 'a'
				}
			}
		}
		words[i] = string(letters)
	}
	return words
}

// plainBehind returns what is behind a prefix in the words that begin with it.
func plainBehind(set []string, prefix string) []string {
	words := []string{}
	for _, w := range set {
		if behind, found := strings.CutPrefix(w, prefix); found {
			words = append(words, behind)
		}
	}
	return words
}

// checkSet checks that a result is the Trie of some words, or none if they are too many or too long.
func checkSet(t *testing.T, name string, got impl.Trie, ok bool, words []string) {
	t.Helper()
	set := sortedSet(words)
	isTooLong := func(w string) bool { return len(w) > impl.MaxLetters }
	if len(set) > impl.MaxWords || slices.ContainsFunc(set, isTooLong) {
		checkNoTrie(t, name, got, ok)
		return
	}
	if !ok || !sameTrie(got, plainTrie(set)) {
		t.Fatalf("%s = %v, %v; the words are to be %q", name, got, ok, set)
	}
}

// checkNoTrie checks that a function has failed.
func checkNoTrie(t *testing.T, name string, got impl.Trie, ok bool) {
	t.Helper()
	if ok || len(got.Nodes) != 0 {
		t.Fatalf("%s = %v, %v; it is to fail", name, got, ok)
	}
}

// checkPair checks all functions of two sets of words.
func checkPair(t *testing.T, a, b []string) {
	t.Helper()
	first, second := plainTrie(a), plainTrie(b)
	for name, f := range triesOfTwo {
		got, ok := f(first, second)
		checkSet(t, name+" of "+strings.Join(a, " ")+" and "+strings.Join(b, " "), got, ok, plainOfTwo(name, a, b))
	}
	without := len(plainOfTwo("WithoutTrie", a, b))
	if got, ok := impl.IsPartTrie(first, second); !ok || got != (without == 0) {
		t.Fatalf("IsPartTrie(%q, %q) = %v, %v", a, b, got, ok)
	}
	differ := without + len(plainOfTwo("WithoutTrie", b, a))
	if got, ok := impl.DifferTries(first, second); !ok || got != differ {
		t.Fatalf("DifferTries(%q, %q) = %d, %v", a, b, got, ok)
	}
}

// checkAlone checks all functions of one set of words.
func checkAlone(t *testing.T, set []string) {
	t.Helper()
	trie, all := plainTrie(set), " of "+strings.Join(set, " ")
	for name, f := range triesOfOne {
		got, ok := f(trie)
		checkSet(t, name+all, got, ok, plainOfOne(name, set))
	}
	for name, f := range reportsOfOne {
		if got, ok := f(trie); !ok || got != plainIs(name, set) {
			t.Fatalf("%s(%q) = %v, %v", name, set, got, ok)
		}
	}
	for _, k := range []int{0, 1, 2, 7, 13, 24, 25} {
		got, ok := impl.ShiftTrie(trie, k)
		checkSet(t, "ShiftTrie"+all, got, ok, plainShift(set, k))
	}
	for _, prefix := range nearTexts(set) {
		got, ok := impl.BehindPrefix(trie, prefix)
		checkSet(t, "BehindPrefix "+prefix+all, got, ok, plainBehind(set, prefix))
	}
}

// somePairs returns pairs of all edges, of all sets of short words, and mixed ones.
func somePairs() [][2][]string {
	pairs := [][2][]string{}
	for _, sets := range [][][]string{append(edgeSets(), edgePairs()...), subsetsOf([]string{"", "a", "ab", "b", "ba", "bb"})} {
		for _, a := range sets {
			for _, b := range sets {
				pairs = append(pairs, [2][]string{a, b})
			}
		}
	}
	m := mixed(11)
	for n := range 300 {
		letters := 1 + n%4
		a := mixedWords(&m, m.below(impl.MaxWords+1), letters, 1+m.below(impl.MaxLetters))
		b := mixedWords(&m, m.below(1+n%impl.MaxWords), letters, 1+m.below(impl.MaxLetters))
		pairs = append(pairs, [2][]string{a, b})
	}
	return pairs
}

// edgePairs returns sets of words that with one another, or with the edges, just have as many words
// or letters as there can be, or have one more.
func edgePairs() [][]string {
	return [][]string{
		{"aaaaaa"}, {"bbbbbb"}, {"bbbbbbb"}, {"", "bbbbbbb"}, {"aaaaaa", "aaaaab"}, {"c", "bbbbbbb"},
		manyWords(20), manyWords(21), manyWords(impl.MaxWords)[20:], manyWords(impl.MaxWords)[19:],
		letterWords("abcde"), letterWords("abcdefgh"), letterWords("vwxyz"), chainWords(6), chainWords(7), chainWords(8),
	}
}

// letterWords returns the words of one letter each.
func letterWords(of string) []string {
	return strings.Split(of, "")
}

func TestPromise5PairsOfSets(t *testing.T) {
	for _, pair := range somePairs() {
		checkPair(t, pair[0], pair[1])
	}
}

func TestPromise5SetsAlone(t *testing.T) {
	for _, set := range someSets() {
		checkAlone(t, set)
	}
}

func TestPromise5JoinedAndMetHaveAsManyWordsAsBoth(t *testing.T) {
	for _, pair := range somePairs() {
		a, b := mustTrie(t, pair[0]), mustTrie(t, pair[1])
		join, ok := impl.JoinTries(a, b)
		if !ok {
			continue
		}
		meet, fine := impl.MeetTries(a, b)
		joined, _ := impl.CountWords(join)
		met, counted := impl.CountWords(meet)
		if !fine || !counted || joined+met != len(pair[0])+len(pair[1]) {
			t.Fatalf("%q and %q: %d words joined, %d met", pair[0], pair[1], joined, met)
		}
		if differ, ok := impl.DifferTries(a, b); !ok || differ != joined-met {
			t.Fatalf("DifferTries(%q, %q) = %d, %v", pair[0], pair[1], differ, ok)
		}
		for name, part := range map[string][2]impl.Trie{
			"met of a": {meet, a}, "met of b": {meet, b}, "a of joined": {a, join}, "b of joined": {b, join},
		} {
			if is, ok := impl.IsPartTrie(part[0], part[1]); !ok || !is {
				t.Fatalf("%q and %q: %s is no part", pair[0], pair[1], name)
			}
		}
	}
}

func TestPromise5FirstAndLastWordsAreFree(t *testing.T) {
	for _, set := range append(someSets(), edgePairs()...) {
		trie := mustTrie(t, set)
		for _, name := range []string{"FirstWords", "LastWords"} {
			got, ok := triesOfOne[name](trie)
			if !ok || !impl.IsTrie(got) {
				t.Fatalf("%s(%q) = %v, %v", name, set, got, ok)
			}
			if free, ok := impl.IsFree(got); !ok || !free {
				t.Fatalf("%s(%q) = %v: it is not free", name, set, got)
			}
			if count, _ := impl.CountWords(got); (count == 0) != (len(set) == 0) {
				t.Fatalf("%s(%q) = %v: it has %d words", name, set, got, count)
			}
			// What is free has just first words, which are the last ones, too.
			if again, ok := triesOfOne[name](got); !ok || !sameTrie(again, got) {
				t.Fatalf("%s of %s(%q) = %v, %v", name, name, set, again, ok)
			}
		}
	}
}

func TestPromise5TurnedAndShiftedTwice(t *testing.T) {
	for _, set := range append(someSets(), edgePairs()...) {
		trie := mustTrie(t, set)
		turned, ok := impl.TurnTrie(trie)
		back, fine := impl.TurnTrie(turned)
		if !ok || !fine || !sameTrie(back, trie) {
			t.Fatalf("TurnTrie(%q) twice = %v, %v", set, back, fine)
		}
		for k := 1; k < 26; k++ {
			shifted, ok := impl.ShiftTrie(trie, k)
			back, fine := impl.ShiftTrie(shifted, 26-k)
			if !ok || !fine || !sameTrie(back, trie) {
				t.Fatalf("ShiftTrie(%q) by %d and %d = %v, %v", set, k, 26-k, back, fine)
			}
		}
		if same, ok := impl.ShiftTrie(trie, 0); !ok || !sameTrie(same, trie) {
			t.Fatalf("ShiftTrie(%q, 0) = %v, %v", set, same, ok)
		}
	}
}

func TestPromise5BehindTheWordsOfProducts(t *testing.T) {
	for _, pair := range somePairs() {
		b := mustTrie(t, pair[1])
		times, ok := impl.TimesTrie(mustTrie(t, pair[0]), b)
		if !ok {
			continue
		}
		for _, w := range pair[0] {
			behind, ok := impl.BehindPrefix(times, w)
			if part, fine := impl.IsPartTrie(b, behind); !ok || !fine || !part {
				t.Fatalf("BehindPrefix of %q, in %q times %q, = %v, %v", w, pair[0], pair[1], behind, ok)
			}
		}
	}
}

func TestPromise5ClosedTries(t *testing.T) {
	for _, set := range append(someSets(), edgePairs()...) {
		trie := mustTrie(t, set)
		is, _ := impl.IsClosed(trie)
		closed, ok := impl.CloseTrie(trie)
		if !ok {
			continue
		}
		if same := sameTrie(closed, trie); same != is {
			t.Fatalf("%q: IsClosed is %v, and %v that closing changes nothing", set, is, same)
		}
		again, fine := impl.CloseTrie(closed)
		if is, told := impl.IsClosed(closed); !told || !is || !fine || !sameTrie(again, closed) {
			t.Fatalf("%q: CloseTrie twice = %v, %v", set, again, fine)
		}
	}
}

// two is a call of a function of two sets of words that is written out, with its result.
type two struct {
	name string
	a, b []string
	want []string
	ok   bool
}

func checkTwo(t *testing.T, list []two) {
	t.Helper()
	for _, c := range list {
		got, ok := triesOfTwo[c.name](mustTrie(t, c.a), mustTrie(t, c.b))
		if ok != c.ok || (ok && !sameTrie(got, plainTrie(c.want))) || (!ok && len(got.Nodes) != 0) {
			t.Errorf("%s(%q, %q) = %v, %v; want %q, %v", c.name, c.a, c.b, got, ok, c.want, c.ok)
		}
	}
}

func TestPromise5SetsTogether(t *testing.T) {
	a, b := []string{"a", "ab"}, []string{"ab", "b"}
	other := []string{"", "c"}
	checkTwo(t, []two{
		{"JoinTries", a, b, []string{"a", "ab", "b"}, true},
		{"JoinTries", a, a, a, true},
		{"JoinTries", a, other, []string{"", "a", "ab", "c"}, true},
		{"JoinTries", nil, b, b, true},
		{"JoinTries", a, nil, a, true},
		{"JoinTries", nil, nil, nil, true},
		{"JoinTries", []string{""}, nil, []string{""}, true},
		{"MeetTries", a, b, []string{"ab"}, true},
		{"MeetTries", a, a, a, true},
		{"MeetTries", a, other, nil, true},
		{"MeetTries", nil, b, nil, true},
		{"MeetTries", a, nil, nil, true},
		{"MeetTries", nil, nil, nil, true},
		{"MeetTries", other, []string{""}, []string{""}, true},
		{"MeetTries", []string{"abc"}, []string{"ab", "abcd"}, nil, true},
		{"WithoutTrie", a, b, []string{"a"}, true},
		{"WithoutTrie", b, a, []string{"b"}, true},
		{"WithoutTrie", a, a, nil, true},
		{"WithoutTrie", a, other, a, true},
		{"WithoutTrie", nil, b, nil, true},
		{"WithoutTrie", a, nil, a, true},
		{"WithoutTrie", nil, nil, nil, true},
		{"WithoutTrie", other, []string{""}, []string{"c"}, true},
		{"WithoutTrie", other, []string{"c"}, []string{""}, true},
	})
	for _, c := range []struct {
		a, b   []string
		isPart bool
		differ int
	}{
		{a, b, false, 2}, {a, a, true, 0}, {a, other, false, 4}, {nil, a, true, 2}, {a, nil, false, 2},
		{nil, nil, true, 0}, {[]string{""}, nil, false, 1}, {nil, []string{""}, true, 1}, {[]string{""}, other, true, 1},
		{[]string{"ab"}, a, true, 1}, {[]string{"c"}, other, true, 1}, {[]string{"abc"}, []string{"abcd"}, false, 2},
		{manyWords(impl.MaxWords), letterWords("abcdefghijklmnopqrstuvwxyz"), false, impl.MaxWords + 26},
		{manyWords(impl.MaxWords), plainShift(manyWords(impl.MaxWords), 1), false, 2 * impl.MaxWords},
	} {
		if got, ok := impl.IsPartTrie(mustTrie(t, c.a), mustTrie(t, c.b)); !ok || got != c.isPart {
			t.Errorf("IsPartTrie(%q, %q) = %v, %v", c.a, c.b, got, ok)
		}
		if got, ok := impl.DifferTries(mustTrie(t, c.a), mustTrie(t, c.b)); !ok || got != c.differ {
			t.Errorf("DifferTries(%q, %q) = %d, %v", c.a, c.b, got, ok)
		}
	}
}

func TestPromise5ResultsOfTheMostWords(t *testing.T) {
	full := manyWords(impl.MaxWords)
	checkTwo(t, []two{
		{"JoinTries", full, full, full, true},
		{"JoinTries", full, nil, full, true},
		{"JoinTries", nil, full, full, true},
		{"JoinTries", full, full[:1], full, true},
		{"JoinTries", full[:20], full[20:], full, true},
		{"JoinTries", full[:39], full[39:], full, true},
		{"JoinTries", full[:25], full[15:], full, true},
		{"JoinTries", full[1:], []string{""}, append([]string{""}, full[1:]...), true},
		{"JoinTries", full, []string{""}, nil, false},
		{"JoinTries", []string{""}, full, nil, false},
		{"JoinTries", full, []string{"zzz"}, nil, false},
		{"JoinTries", full, plainShift(full, 1), nil, false},
		{"MeetTries", full, full, full, true},
		{"WithoutTrie", full, full, nil, true},
		{"WithoutTrie", full, nil, full, true},
	})
	if got, ok := impl.JoinTries(plainTrie(full[:20]), plainTrie(append(full[20:], "zzz"))); ok || len(got.Nodes) != 0 {
		t.Errorf("JoinTries of one word too many = %v, %v", got, ok)
	}
	// All others keep to the number of the words.
	for _, set := range [][]string{full, append([]string{""}, full[1:]...), plainShift(full, 20)} {
		checkAlone(t, sortedSet(set))
	}
}

func TestPromise5Products(t *testing.T) {
	full := manyWords(impl.MaxWords)
	long := strings.Repeat("a", impl.MaxLetters)
	checkTwo(t, []two{
		{"TimesTrie", []string{"a", "ab"}, []string{"ab", "b"}, []string{"aab", "ab", "abab", "abb"}, true},
		{"TimesTrie", []string{"ab", "b"}, []string{"a", "ab"}, []string{"aba", "abab", "ba", "bab"}, true},
		{"TimesTrie", []string{"a", "ab"}, []string{"bc", "c"}, []string{"abbc", "abc", "ac"}, true},
		{"TimesTrie", chainWords(3), chainWords(3), chainWords(5), true},
		{"TimesTrie", nil, []string{"a"}, nil, true},
		{"TimesTrie", []string{"a"}, nil, nil, true},
		{"TimesTrie", nil, nil, nil, true},
		{"TimesTrie", nil, []string{""}, nil, true},
		{"TimesTrie", []string{""}, []string{""}, []string{""}, true},
		{"TimesTrie", []string{""}, full, full, true},
		{"TimesTrie", full, []string{""}, full, true},
		{"TimesTrie", full, nil, nil, true},
		{"TimesTrie", nil, full, nil, true},
		{"TimesTrie", []string{long}, []string{""}, []string{long}, true},
		{"TimesTrie", []string{long}, []string{"a"}, nil, false},
		{"TimesTrie", []string{"a"}, []string{long}, nil, false},
		{"TimesTrie", []string{"", "a"}, []string{long}, nil, false},
		{"TimesTrie", []string{long}, []string{"", "a"}, nil, false},
		{"TimesTrie", []string{long[:5]}, []string{long[:7]}, []string{long}, true},
		{"TimesTrie", []string{long[:6]}, []string{long[:7]}, nil, false},
		{"TimesTrie", []string{long}, []string{long}, nil, false},
		{"TimesTrie", full, full, nil, false},
		{"TimesTrie", chainWords(7), chainWords(7), chainWords(13), true},
		{"TimesTrie", chainWords(7), chainWords(8), nil, false},
	})
	// 5 times 8 products are the most words, 6 times 7 too many, if each pair has one of its own.
	five, eight := letterWords("abcde"), letterWords("ijklmnop")
	checkTwo(t, []two{{"TimesTrie", five, eight, plainOfTwo("TimesTrie", five, eight), true}})
	checkTwo(t, []two{{"TimesTrie", letterWords("abcdef"), letterWords("ijklmno"), nil, false}})
	// With the words alone beside those behind x, twenty make the most words, and twenty-one with a
	// product that comes twice, "x", make one more.
	twenty := letterWords("abcdefghijklmnopqrst")
	twice := sortedSet(append([]string{"x", ""}, twenty[:19]...))
	checkTwo(t, []two{
		{"TimesTrie", []string{"", "x"}, twenty, plainOfTwo("TimesTrie", []string{"", "x"}, twenty), true},
		{"TimesTrie", []string{"", "x"}, twice, nil, false},
		{"TimesTrie", []string{"", "x"}, twice[:20], plainOfTwo("TimesTrie", []string{"", "x"}, twice[:20]), true},
	})
	if n := len(sortedSet(plainOfTwo("TimesTrie", []string{"", "x"}, twice))); n != impl.MaxWords+1 {
		t.Errorf("%d products are to be one too many", n)
	}
}

func TestPromise5BehindPrefix(t *testing.T) {
	set := []string{"", "a", "ab", "abc", "abd", "b", "cab"}
	long := strings.Repeat("z", impl.MaxLetters)
	for _, c := range []struct {
		set    []string
		prefix string
		want   []string
	}{
		{set, "", set},
		{set, "a", []string{"", "b", "bc", "bd"}},
		{set, "ab", []string{"", "c", "d"}},
		{set, "abc", []string{""}},
		{set, "abcd", nil},
		{set, "ba", nil},
		{set, "c", []string{"ab"}},
		{set, "ca", []string{"b"}},
		{set, "d", nil},
		{set, long, nil},
		{[]string{long}, long, []string{""}},
		{[]string{long}, long[:11], []string{"z"}},
		{[]string{"a"}, "aa", nil},
		{nil, "", nil},
		{nil, "a", nil},
		{[]string{""}, "", []string{""}},
		{[]string{""}, "a", nil},
	} {
		got, ok := impl.BehindPrefix(mustTrie(t, c.set), c.prefix)
		if !ok || !sameTrie(got, plainTrie(c.want)) {
			t.Errorf("BehindPrefix(%q, %q) = %v, %v; want %q", c.set, c.prefix, got, ok, c.want)
		}
	}
}

func TestPromise5ClosedAndFree(t *testing.T) {
	long := strings.Repeat("a", impl.MaxLetters)
	for _, c := range []struct {
		set          []string
		closed, free bool
		first, last  []string
	}{
		{nil, true, true, nil, nil},
		{[]string{""}, true, true, []string{""}, []string{""}},
		{[]string{"a"}, false, true, []string{"a"}, []string{"a"}},
		{[]string{"", "a"}, true, false, []string{""}, []string{"a"}},
		{[]string{"", "a", "b"}, true, false, []string{""}, []string{"a", "b"}},
		{[]string{"", "ab"}, false, false, []string{""}, []string{"ab"}},
		{[]string{"a", "ab"}, false, false, []string{"a"}, []string{"ab"}},
		{[]string{"ab", "ac", "b"}, false, true, []string{"ab", "ac", "b"}, []string{"ab", "ac", "b"}},
		{[]string{"ab", "abc", "abd", "ac", "b", "ba", "bab"}, false, false, []string{"ab", "ac", "b"}, []string{"abc", "abd", "ac", "bab"}},
		{[]string{"a", "abc", "b"}, false, false, []string{"a", "b"}, []string{"abc", "b"}},
		{chainWords(13), true, false, []string{""}, []string{long}},
		{chainWords(13)[1:], false, false, []string{"a"}, []string{long}},
		{manyWords(impl.MaxWords), false, true, manyWords(impl.MaxWords), manyWords(impl.MaxWords)},
	} {
		trie := mustTrie(t, c.set)
		if got, ok := impl.IsClosed(trie); !ok || got != c.closed {
			t.Errorf("IsClosed(%q) = %v, %v", c.set, got, ok)
		}
		if got, ok := impl.IsFree(trie); !ok || got != c.free {
			t.Errorf("IsFree(%q) = %v, %v", c.set, got, ok)
		}
		if got, ok := impl.FirstWords(trie); !ok || !sameTrie(got, plainTrie(c.first)) {
			t.Errorf("FirstWords(%q) = %v, %v", c.set, got, ok)
		}
		if got, ok := impl.LastWords(trie); !ok || !sameTrie(got, plainTrie(c.last)) {
			t.Errorf("LastWords(%q) = %v, %v", c.set, got, ok)
		}
	}
}

func TestPromise5CloseTrie(t *testing.T) {
	long := strings.Repeat("a", impl.MaxLetters)
	row := func(letter string, n int) string { return strings.Repeat(letter, n) }
	most := []string{long, row("b", 12), row("c", 12), row("d", 3)}
	for _, c := range []struct {
		set, want []string
		ok        bool
	}{
		{nil, nil, true},
		{[]string{""}, []string{""}, true},
		{[]string{"a"}, []string{"", "a"}, true},
		{[]string{"a", "ab"}, []string{"", "a", "ab"}, true},
		{[]string{"ab", "b"}, []string{"", "a", "ab", "b"}, true},
		{[]string{long}, chainWords(13), true},
		{chainWords(13), chainWords(13), true},
		{most, plainOfOne("CloseTrie", most), true},
		{append(most[:3:3], row("d", 4)), nil, false},
		{append(most[:4:4], "e"), nil, false},
		{append(most[:3:3], "d", "e", "f"), plainOfOne("CloseTrie", append(most[:3:3], "d", "e", "f")), true},
		{manyWords(impl.MaxWords), nil, false},
		{manyWords(4), nil, false},
		{manyWords(3), plainOfOne("CloseTrie", manyWords(3)), true},
	} {
		got, ok := impl.CloseTrie(mustTrie(t, c.set))
		if ok != c.ok || (ok && !sameTrie(got, plainTrie(c.want))) || (!ok && len(got.Nodes) != 0) {
			t.Errorf("CloseTrie(%q) = %v, %v; want %q, %v", c.set, got, ok, c.want, c.ok)
		}
	}
	if n := len(sortedSet(plainOfOne("CloseTrie", most))); n != impl.MaxWords {
		t.Errorf("%d words are to be the most ones", n)
	}
	// A closed Trie with the most words has no word too many.
	full := mustTrie(t, sortedSet(plainOfOne("CloseTrie", most)))
	is, ok := impl.IsClosed(full)
	if again, fine := impl.CloseTrie(full); !ok || !is || !fine || !sameTrie(again, full) {
		t.Errorf("the closed Trie with the most words: %v, closed to %v, %v", is, again, fine)
	}
}

func TestPromise5TurnedWords(t *testing.T) {
	for _, c := range [][2][]string{
		{nil, nil},
		{{""}, {""}},
		{{"a", "aba", "bb"}, {"a", "aba", "bb"}},
		{{"ab", "b"}, {"b", "ba"}},
		{{"ab", "ba"}, {"ab", "ba"}},
		{{"", "abcdefghijkl"}, {"", "lkjihgfedcba"}},
		{{"ba", "ca", "da"}, {"ab", "ac", "ad"}},
	} {
		if got, ok := impl.TurnTrie(mustTrie(t, c[0])); !ok || !sameTrie(got, plainTrie(c[1])) {
			t.Errorf("TurnTrie(%q) = %v, %v; want %q", c[0], got, ok, c[1])
		}
	}
}

func TestPromise5ShiftedWords(t *testing.T) {
	for _, c := range []struct {
		set  []string
		k    int
		want []string
	}{
		{nil, 0, nil}, {nil, 25, nil}, {[]string{""}, 3, []string{""}},
		{[]string{"a", "z"}, 0, []string{"a", "z"}},
		{[]string{"a", "z"}, 1, []string{"a", "b"}},
		{[]string{"a", "z"}, 25, []string{"y", "z"}},
		{[]string{"ab", "b"}, 25, []string{"a", "za"}},
		{[]string{"abyz"}, 2, []string{"cdab"}},
		{[]string{"", "m", "mz", "z"}, 13, []string{"", "m", "z", "zm"}},
		{letterWords("abcdefghijklmnopqrstuvwxyz"), 7, letterWords("abcdefghijklmnopqrstuvwxyz")},
		{[]string{"abcdefghijkl", "opqrstuvwxyz"}, 14, []string{"cdefghijklmn", "opqrstuvwxyz"}},
	} {
		if got, ok := impl.ShiftTrie(mustTrie(t, c.set), c.k); !ok || !sameTrie(got, plainTrie(c.want)) {
			t.Errorf("ShiftTrie(%q, %d) = %v, %v; want %q", c.set, c.k, got, ok, c.want)
		}
	}
}

// badShifts are numbers outside 0..25.
var badShifts = []int{math.MinInt, -1 << 32, -27, -26, -25, -2, -1, 26, 27, 51, 52, 256, 1 << 32, 1<<32 + 1, math.MaxInt}

func TestPromise5InvalidNumbersAndTextsFail(t *testing.T) {
	for _, set := range edgeSets() {
		trie := mustTrie(t, set)
		for _, k := range badShifts {
			got, ok := impl.ShiftTrie(trie, k)
			checkNoTrie(t, "ShiftTrie by a wrong number", got, ok)
		}
		for _, text := range notWords {
			got, ok := impl.BehindPrefix(trie, text)
			checkNoTrie(t, "BehindPrefix of no word", got, ok)
		}
	}
}

// checkNoPair checks that all functions of two Tries fail.
func checkNoPair(t *testing.T, why string, a, b impl.Trie) {
	t.Helper()
	for name, f := range triesOfTwo {
		got, ok := f(a, b)
		checkNoTrie(t, name+", "+why, got, ok)
	}
	if got, ok := impl.IsPartTrie(a, b); ok || got {
		t.Errorf("%s: IsPartTrie = %v, %v", why, got, ok)
	}
	if got, ok := impl.DifferTries(a, b); ok || got != 0 {
		t.Errorf("%s: DifferTries = %d, %v", why, got, ok)
	}
}

func TestPromise5InvalidTriesFail(t *testing.T) {
	good := []impl.Trie{
		plainTrie(nil), plainTrie([]string{""}), plainTrie([]string{"a", "ab"}), plainTrie(manyWords(impl.MaxWords)),
	}
	bads := badTries()
	for why, bad := range bads {
		for _, trie := range good {
			checkNoPair(t, "the first one has "+why, bad, trie)
			checkNoPair(t, "the second one has "+why, trie, bad)
		}
		checkNoPair(t, "both have "+why, bad, bad)
		checkNoPair(t, "one has no Nodes, the other one "+why, bads["no Nodes"], bad)
		for name, f := range triesOfOne {
			got, ok := f(bad)
			checkNoTrie(t, name+", "+why, got, ok)
		}
		for name, f := range reportsOfOne {
			if got, ok := f(bad); ok || got {
				t.Errorf("%s, %s: %v, %v", name, why, got, ok)
			}
		}
		for _, k := range append([]int{0, 1, 25}, badShifts...) {
			got, ok := impl.ShiftTrie(bad, k)
			checkNoTrie(t, "ShiftTrie, "+why, got, ok)
		}
		for _, text := range append([]string{"", "a", "ab", "zz"}, notWords...) {
			got, ok := impl.BehindPrefix(bad, text)
			checkNoTrie(t, "BehindPrefix, "+why, got, ok)
		}
	}
}

// togetherAnswersOf calls all functions of chapter 5 with two Tries, always in the same order.
func togetherAnswersOf(a, b impl.Trie, texts []string, numbers []int) []answer {
	all := []answer{}
	add := func(trie impl.Trie, ok bool) { all = append(all, answer{ok: ok, trie: trie}) }
	report := func(is, ok bool) { all = append(all, answer{ok: is}, answer{ok: ok}) }
	for _, name := range []string{"JoinTries", "MeetTries", "WithoutTrie", "TimesTrie"} {
		add(triesOfTwo[name](a, b))
		add(triesOfTwo[name](a, a))
	}
	for _, name := range []string{"CloseTrie", "FirstWords", "LastWords", "TurnTrie"} {
		add(triesOfOne[name](a))
	}
	report(impl.IsClosed(a))
	report(impl.IsFree(a))
	report(impl.IsPartTrie(a, b))
	for _, w := range texts {
		add(impl.BehindPrefix(a, w))
	}
	for _, k := range numbers {
		add(impl.ShiftTrie(a, k))
	}
	n, ok := impl.DifferTries(a, b)
	return append(all, answer{ok: ok, number: n})
}

func TestPromise13SetsTogetherReturnForAllArguments(t *testing.T) {
	tries := badTries()
	for _, set := range append(edgeSets(), edgePairs()...) {
		tries["of "+strings.Join(set, " ")] = plainTrie(set)
	}
	texts := append([]string{"", "a", "ab", "zz"}, notWords...)
	numbers := append([]int{0, 1, 13, 25}, badShifts...)
	for name, a := range tries {
		for other, b := range tries {
			before, kept := copyTrie(a), copyTrie(b)
			first := togetherAnswersOf(a, b, texts, numbers)
			again := togetherAnswersOf(a, b, texts, numbers)
			if !slices.EqualFunc(first, again, sameAnswer) {
				t.Fatalf("%.20q and %.20q: other results for the same arguments", name, other)
			}
			if !sameTrie(a, before) || !sameTrie(b, kept) {
				t.Fatalf("%.20q and %.20q: a Trie is modified", name, other)
			}
			for _, got := range first {
				if got.ok && len(got.trie.Nodes) > 0 && !impl.IsTrie(got.trie) {
					t.Fatalf("%.20q and %.20q: %v is not valid", name, other, got.trie)
				}
			}
		}
	}
}

func TestPromise13SetsTogetherAreLeftAsTheyWere(t *testing.T) {
	// Room behind the Nodes of an argument belongs to the caller.
	withRoom := func(set []string) []impl.Node {
		return append(plainTrie(set).Nodes, nodeWith(5, 5, true), nodeWith(6, 6, true))
	}
	for _, set := range edgeSets() {
		for _, other := range edgeSets() {
			a, b := withRoom(set), withRoom(other)
			before, kept := slices.Clone(a), slices.Clone(b)
			first, second := impl.Trie{Nodes: a[:len(a)-2]}, impl.Trie{Nodes: b[:len(b)-2]}
			togetherAnswersOf(first, second, []string{"", "a", "ab", "zz", "A"}, []int{-1, 0, 1, 25, 26})
			if !slices.Equal(a, before) || !slices.Equal(b, kept) {
				t.Fatalf("a function modified the Trie of %q or that of %q", set, other)
			}
		}
	}
}

func TestPromise13SetsTogetherShareNothing(t *testing.T) {
	texts, numbers := []string{"", "a", "ab", "zz"}, []int{0, 1, 25}
	for _, set := range edgeSets() {
		for _, other := range edgeSets() {
			a, b := plainTrie(set), plainTrie(other)
			want := togetherAnswersOf(a, b, texts, numbers)
			for _, got := range togetherAnswersOf(a, b, texts, numbers) {
				spoil(got.trie.Nodes, nodeWith(9, 9, false))
			}
			again := togetherAnswersOf(a, b, texts, numbers)
			if !slices.EqualFunc(again, want, sameAnswer) || !sameTrie(a, plainTrie(set)) || !sameTrie(b, plainTrie(other)) {
				t.Fatalf("%q and %q: a changed result changes another one, or an argument", set, other)
			}
		}
	}
}
