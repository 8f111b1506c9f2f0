package tests

import (
	"math"
	"math/big"
	"slices"
	"strings"
	"testing"

	"loop.example/g01243/impl"
)

// plainFraction returns a fraction as the document tells it: big.Rat keeps no common divisors.
func plainFraction(r *big.Rat) [2]int {
	return [2]int{int(r.Num().Int64()), int(r.Denom().Int64())}
}

// outOf returns the fraction of two numbers.
func outOf(numerator, denominator int) [2]int {
	return plainFraction(big.NewRat(int64(numerator), int64(denominator)))
}

// ratOf returns a fraction as one that can be counted with.
func ratOf(f [2]int) *big.Rat {
	return big.NewRat(int64(f[0]), int64(f[1]))
}

// kidTexts returns the prefixes with one letter more than a prefix.
func kidTexts(set []string, prefix string) []string {
	kids := []string{}
	for c := 'a'; c <= 'z'; c++ {
		if kid := prefix + string(c); countBeginning(set, kid) > 0 {
			kids = append(kids, kid)
		}
	}
	return kids
}

// plainDescents goes down all ways from a prefix, which a descent reaches with a chance, and puts
// down with which chance it comes to each word.
func plainDescents(set []string, prefix string, reach *big.Rat, chances map[string]*big.Rat) {
	kids := kidTexts(set, prefix)
	choices := len(kids)
	if slices.Contains(set, prefix) {
		choices++
	}
	each := new(big.Rat).Quo(reach, ratOf([2]int{choices, 1}))
	if choices > len(kids) {
		chances[prefix] = each
	}
	for _, kid := range kids {
		plainDescents(set, kid, each, chances)
	}
}

// plainLettersBelow returns how many letters a descent adds to a prefix that it has reached, on
// average.
func plainLettersBelow(set []string, prefix string) *big.Rat {
	kids := kidTexts(set, prefix)
	choices := len(kids)
	if slices.Contains(set, prefix) {
		choices++
	}
	letters := new(big.Rat)
	for _, kid := range kids {
		letters.Add(letters, big.NewRat(1, 1))
		letters.Add(letters, plainLettersBelow(set, kid))
	}
	return letters.Quo(letters, ratOf([2]int{choices, 1}))
}

// power returns k to the power of n.
func power(k, n int) int {
	product := 1
	for range n {
		product *= k
	}
	return product
}

// plainBegun returns how many texts, of n of the first k letters behind a prefix, begin with a word
// when the prefix is put ahead of them.
func plainBegun(set []string, prefix string, k, n int) int {
	if slices.Contains(set, prefix) {
		return power(k, n)
	}
	begun := 0
	if n > 0 {
		for _, kid := range kidTexts(set, prefix) {
			if int(kid[len(prefix)]) < 'a'+k {
				begun += plainBegun(set, kid, k, n-1)
			}
		}
	}
	return begun
}

// plainHit returns how many words have n of the first k letters.
func plainHit(set []string, k, n int) int {
	return len(chosen(set, func(w string) bool { return len(w) == n && strings.Trim(w, alphabet[:k]) == "" }))
}

const alphabet = "abcdefghijklmnopqrstuvwxyz"

// plainSum adds what is told of each word.
func plainSum(set []string, tell func(w string) int) int {
	sum := 0
	for _, w := range set {
		sum += tell(w)
	}
	return sum
}

// plainMeanCommon returns the mean of common first letters over all pairs of words.
func plainMeanCommon(set []string) [2]int {
	letters, pairs := 0, 0
	for i, w := range set {
		for _, other := range set[:i] {
			letters += plainCommonStart(w, other)
			pairs++
		}
	}
	return outOf(letters, pairs)
}

// plainSameStart tries all pairs of words that two drawings can have.
func plainSameStart(set []string, n int) [2]int {
	same := 0
	for _, w := range set {
		for _, other := range set {
			if len(w) >= n && len(other) >= n && w[:n] == other[:n] {
				same++
			}
		}
	}
	return outOf(same, len(set)*len(set))
}

// plainBestLetter returns the first letter that is in the most words, and in how many.
func plainBestLetter(set []string) (int, int) {
	best, most := 0, 0
	for letter, c := range alphabet {
		in := len(chosen(set, func(w string) bool { return strings.ContainsRune(w, c) }))
		if in > most {
			best, most = letter, in
		}
	}
	return best, most
}

// deepChoices returns as many words as there can be with very unlikely ones: the Node of each row
// of the letter a, but the longest one, has four or five choices.
func deepChoices() []string {
	words := chainWords(13)
	for n, row := range chainWords(12) {
		words = append(words, row+"b", row+"c")
		if n < 3 {
			words = append(words, row+"z")
		}
	}
	return sortedSet(words)
}

// primeChoices returns words of which the chances have no common divisors: the Nodes of the first
// letters have 5, 7, 11 and 13 choices.
func primeChoices() []string {
	words := []string{}
	for i, kids := range []int{5, 7, 11, 13} {
		for k := range kids {
			words = append(words, alphabet[i:i+1]+alphabet[25-k:26-k])
		}
	}
	return sortedSet(words)
}

// chanceSets returns sets of words at the edges of what chances can be, and mixed ones.
func chanceSets() [][]string {
	return append(someSets(),
		fullRows("ab", 5), fullRows("abc", 3), fullRows("yz", 5), fullForks(), fewShared(impl.MaxWords), deepChoices(), primeChoices(),
		append([]string{""}, letterWords(alphabet)...), []string{"aaab", "aab", "ab", "b"}, []string{"ax", "bx", "cx"}, []string{"b", "cb", "cc"},
		[]string{"a", fullRow("a")}, []string{"a", fullRow("b")}, []string{"zy", "zz"}, []string{fullRow("y"), fullRow("z")},
		[]string{"", fullRow("ab"), fullRow("abc")}, sortedSet(textsOver("ab", 4)), sortedSet(textsOver("mz", 4)[1:]),
	)
}

// checkFraction checks a fraction that a function has returned.
func checkFraction(t *testing.T, what string, set []string, got [2]int, ok bool, want [2]int) {
	t.Helper()
	if !ok || got != want {
		t.Fatalf("%s of %q = %v, %v; want %v", what, set, got, ok, want)
	}
}

// wordSets returns the sets that are not empty: out of others, no word is drawn.
func wordSets() [][]string {
	return slices.DeleteFunc(chanceSets(), func(set []string) bool { return len(set) == 0 })
}

func TestPromise9WordsThatAreDrawn(t *testing.T) {
	for _, set := range wordSets() {
		trie := mustTrie(t, set)
		letters := plainSum(set, func(w string) int { return len(w) })
		got, ok := impl.MeanLetters(trie)
		checkFraction(t, "MeanLetters", set, got, ok, outOf(letters, len(set)))
		unique := plainSum(set, func(w string) int { return len(plainUnique(set, w)) })
		got, ok = impl.MeanUnique(trie)
		checkFraction(t, "MeanUnique", set, got, ok, outOf(unique, len(set)))
		for place, prefix := range plainPrefixes(set) {
			got, ok := impl.ChanceUnder(trie, place)
			checkFraction(t, "ChanceUnder "+prefix, set, got, ok, outOf(countBeginning(set, prefix), len(set)))
		}
		best, most := plainBestLetter(set)
		letter, got, ok := impl.BestLetter(trie)
		checkFraction(t, "BestLetter", set, got, ok, outOf(most, len(set)))
		if letter != best {
			t.Fatalf("BestLetter(%q) = %d; want %d", set, letter, best)
		}
	}
}

func TestPromise9PairsOfWords(t *testing.T) {
	for _, set := range wordSets() {
		trie := mustTrie(t, set)
		got, ok := impl.MeanCommon(trie)
		if len(set) > 1 {
			checkFraction(t, "MeanCommon", set, got, ok, plainMeanCommon(set))
		} else if ok || got != [2]int{} {
			t.Fatalf("MeanCommon(%q) = %v, %v", set, got, ok)
		}
		before := big.NewRat(1, 1)
		for n := range impl.MaxLetters + 1 {
			got, ok := impl.ChanceSameStart(trie, n)
			checkFraction(t, "ChanceSameStart", set, got, ok, plainSameStart(set, n))
			// It is 1 for no letters, and does not grow.
			if n == 0 && got != [2]int{1, 1} || ratOf(got).Cmp(before) > 0 {
				t.Fatalf("ChanceSameStart(%q, %d) = %v", set, n, got)
			}
			before = ratOf(got)
		}
	}
}

func TestPromise9Descents(t *testing.T) {
	for _, set := range wordSets() {
		trie := mustTrie(t, set)
		chances := map[string]*big.Rat{}
		plainDescents(set, "", big.NewRat(1, 1), chances)
		likeliest := set[0]
		for _, w := range set {
			if chances[w].Cmp(chances[likeliest]) > 0 {
				likeliest = w
			}
		}
		for _, w := range append(fewTexts(set), set...) {
			want := [2]int{0, 1}
			if chances[w] != nil {
				want = plainFraction(chances[w])
			}
			got, ok := impl.ChanceOfDescent(trie, w)
			checkFraction(t, "ChanceOfDescent to "+w, set, got, ok, want)
		}
		w, got, ok := impl.LikeliestDescent(trie)
		checkFraction(t, "LikeliestDescent", set, got, ok, plainFraction(chances[likeliest]))
		if w != likeliest {
			t.Fatalf("LikeliestDescent(%q) = %q; want %q", set, w, likeliest)
		}
		got, ok = impl.MeanDescent(trie)
		checkFraction(t, "MeanDescent", set, got, ok, plainFraction(plainLettersBelow(set, "")))
	}
}

// TestPromise9ChancesOfDescentsAre1Together holds what the functions tell against each other.
func TestPromise9ChancesOfDescentsAre1Together(t *testing.T) {
	for _, set := range wordSets() {
		trie := mustTrie(t, set)
		all, letters := new(big.Rat), new(big.Rat)
		likeliest, greatest, _ := impl.LikeliestDescent(trie)
		for _, w := range set {
			chance, ok := impl.ChanceOfDescent(trie, w)
			if !ok || chance[0] < 1 || chance[1] < chance[0] {
				t.Fatalf("ChanceOfDescent(%q, %q) = %v, %v", set, w, chance, ok)
			}
			all.Add(all, ratOf(chance))
			letters.Add(letters, new(big.Rat).Mul(ratOf(chance), ratOf([2]int{len(w), 1})))
			// Those before the first one with the greatest chance have less.
			if sign := ratOf(chance).Cmp(ratOf(greatest)); sign > 0 || sign == 0 && w < likeliest || w == likeliest && sign != 0 {
				t.Fatalf("LikeliestDescent(%q) = %q, %v; that to %q is %v", set, likeliest, greatest, w, chance)
			}
		}
		if plainFraction(all) != [2]int{1, 1} {
			t.Fatalf("%q: the chances of all words are %v together", set, all)
		}
		if got, ok := impl.MeanDescent(trie); !ok || got != plainFraction(letters) {
			t.Fatalf("MeanDescent(%q) = %v, %v; want %v", set, got, ok, letters)
		}
		if got, ok := impl.ChanceUnder(trie, 0); !ok || got != [2]int{1, 1} {
			t.Fatalf("ChanceUnder(%q) of the Node 0 = %v, %v", set, got, ok)
		}
	}
}

func TestPromise9RandomTexts(t *testing.T) {
	// Without words, no text is hit; but texts are random all the same.
	for _, set := range chanceSets() {
		trie := mustTrie(t, set)
		for _, k := range []int{1, 2, 3, 12, 13, 25, 26} {
			for n := range impl.MaxLetters + 1 {
				texts := power(k, n)
				hit, ok := impl.ChanceHit(trie, k, n)
				checkFraction(t, "ChanceHit", set, hit, ok, outOf(plainHit(set, k, n), texts))
				if n%3 == 1 {
					continue
				}
				begins, ok := impl.ChanceBegins(trie, k, n)
				checkFraction(t, "ChanceBegins", set, begins, ok, outOf(plainBegun(set, "", k, n), texts))
				if ratOf(begins).Cmp(ratOf(hit)) < 0 {
					t.Fatalf("%q: ChanceBegins = %v, ChanceHit = %v", set, begins, hit)
				}
			}
		}
	}
}

// TestPromise9RandomTextsAreHitAsCounted counts all texts there are, each by itself.
func TestPromise9RandomTextsAreHitAsCounted(t *testing.T) {
	texts := map[[2]int][]string{}
	for k := 1; k <= 3; k++ {
		for n := range 7 {
			texts[[2]int{k, n}] = fullRows(alphabet[:k], n)
		}
	}
	for n := range 3 {
		texts[[2]int{26, n}] = fullRows(alphabet, n)
	}
	sets := append(edgeSets(), []string{"", "b"}, []string{"a", "aa", "aab", "bc", "bcaab"}, []string{"cc", "d"}, []string{"abcabc", "b", "bbb"}, deepChoices())
	for _, set := range sets {
		trie := mustTrie(t, set)
		for of, all := range texts {
			hit, begun := 0, 0
			for _, text := range all {
				if slices.Contains(set, text) {
					hit++
				}
				if slices.ContainsFunc(set, func(w string) bool { return strings.HasPrefix(text, w) }) {
					begun++
				}
			}
			got, ok := impl.ChanceHit(trie, of[0], of[1])
			checkFraction(t, "ChanceHit", set, got, ok, outOf(hit, len(all)))
			got, ok = impl.ChanceBegins(trie, of[0], of[1])
			checkFraction(t, "ChanceBegins", set, got, ok, outOf(begun, len(all)))
		}
	}
}

func TestPromise9Means(t *testing.T) {
	for _, c := range []struct {
		set                              []string
		letters, descent, common, unique [2]int
	}{
		// One word: no other one begins as the empty text does, and there are no pairs.
		{[]string{""}, [2]int{0, 1}, [2]int{0, 1}, [2]int{}, [2]int{0, 1}},
		{[]string{"a"}, [2]int{1, 1}, [2]int{1, 1}, [2]int{}, [2]int{0, 1}},
		{[]string{"abcdefghijkl"}, [2]int{12, 1}, [2]int{12, 1}, [2]int{}, [2]int{0, 1}},
		{[]string{"", "a"}, [2]int{1, 2}, [2]int{1, 2}, [2]int{0, 1}, [2]int{1, 2}},
		{[]string{"", "a", "b"}, [2]int{2, 3}, [2]int{2, 3}, [2]int{0, 1}, [2]int{2, 3}},
		{[]string{"a", "ab", "b"}, [2]int{4, 3}, [2]int{5, 4}, [2]int{1, 3}, [2]int{4, 3}},
		// Words that others begin with.
		{chainWords(13), [2]int{6, 1}, [2]int{4095, 4096}, [2]int{11, 3}, [2]int{6, 1}},
		{[]string{"a", "abcdefghijkl"}, [2]int{13, 2}, [2]int{13, 2}, [2]int{1, 1}, [2]int{3, 2}},
		{[]string{"aaab", "aab", "ab", "b"}, [2]int{5, 2}, [2]int{15, 8}, [2]int{2, 3}, [2]int{9, 4}},
		// Many kids, and no first letter in common.
		{letterWords(alphabet), [2]int{1, 1}, [2]int{1, 1}, [2]int{0, 1}, [2]int{1, 1}},
		{append([]string{""}, letterWords(alphabet)...), [2]int{26, 27}, [2]int{26, 27}, [2]int{0, 1}, [2]int{26, 27}},
		{[]string{"ax", "bx", "cx"}, [2]int{2, 1}, [2]int{2, 1}, [2]int{0, 1}, [2]int{1, 1}},
		{[]string{"aa", "ab", "ba", "bb"}, [2]int{2, 1}, [2]int{2, 1}, [2]int{1, 3}, [2]int{2, 1}},
		{[]string{"b", "cb", "cc"}, [2]int{5, 3}, [2]int{3, 2}, [2]int{1, 3}, [2]int{5, 3}},
		{[]string{"card", "care", "cart", "cat", "dog", "door"}, [2]int{11, 3}, [2]int{7, 2}, [2]int{17, 15}, [2]int{7, 2}},
		{[]string{"zzzzzzzzzzzy", "zzzzzzzzzzzz"}, [2]int{12, 1}, [2]int{12, 1}, [2]int{11, 1}, [2]int{12, 1}},
		{manyWords(impl.MaxWords), [2]int{12, 1}, [2]int{12, 1}, [2]int{7, 390}, [2]int{17, 10}},
	} {
		trie := mustTrie(t, c.set)
		got, ok := impl.MeanLetters(trie)
		checkFraction(t, "MeanLetters", c.set, got, ok, c.letters)
		got, ok = impl.MeanDescent(trie)
		checkFraction(t, "MeanDescent", c.set, got, ok, c.descent)
		got, ok = impl.MeanUnique(trie)
		checkFraction(t, "MeanUnique", c.set, got, ok, c.unique)
		got, ok = impl.MeanCommon(trie)
		if ok != (len(c.set) > 1) || got != c.common {
			t.Errorf("MeanCommon(%q) = %v, %v; want %v", c.set, got, ok, c.common)
		}
	}
}

func TestPromise9LikeliestAndBest(t *testing.T) {
	for _, c := range []struct {
		set       []string
		likeliest string
		chance    [2]int
		letter    int
		in        [2]int
	}{
		// No letter is in the empty word: the first one is in as many words as each other one.
		{[]string{""}, "", [2]int{1, 1}, 0, [2]int{0, 1}},
		{[]string{"a"}, "a", [2]int{1, 1}, 0, [2]int{1, 1}}, {[]string{"z"}, "z", [2]int{1, 1}, 25, [2]int{1, 1}},
		{[]string{"", "z"}, "", [2]int{1, 2}, 25, [2]int{1, 2}}, {[]string{"abcdefghijkl"}, "abcdefghijkl", [2]int{1, 1}, 0, [2]int{1, 1}},
		{[]string{"a", "ab", "b"}, "b", [2]int{1, 2}, 0, [2]int{2, 3}}, {chainWords(13), "", [2]int{1, 2}, 0, [2]int{12, 13}},
		// The last one has the greatest chance, or several ones have it.
		{[]string{"aaab", "aab", "ab", "b"}, "b", [2]int{1, 2}, 1, [2]int{1, 1}},
		{[]string{"aa", "ab", "b", "cc"}, "b", [2]int{1, 3}, 0, [2]int{1, 2}},
		{[]string{"card", "care", "cart", "cat", "dog", "door"}, "cat", [2]int{1, 4}, 0, [2]int{2, 3}},
		{letterWords(alphabet), "a", [2]int{1, 26}, 0, [2]int{1, 26}},
		{append([]string{""}, letterWords(alphabet)...), "", [2]int{1, 27}, 0, [2]int{1, 27}},
		{fullRows("yz", 5), "yyyyy", [2]int{1, 32}, 24, [2]int{31, 32}}, {[]string{"b", "cb", "cc"}, "b", [2]int{1, 2}, 1, [2]int{2, 3}},
		// A letter that is in a word several times counts once for it.
		{[]string{"ax", "bx", "cx"}, "ax", [2]int{1, 3}, 23, [2]int{1, 1}}, {[]string{"bbb", "ca", "da"}, "bbb", [2]int{1, 3}, 0, [2]int{2, 3}},
		{[]string{"aaaa", "bc", "cd"}, "aaaa", [2]int{1, 3}, 2, [2]int{2, 3}}, {[]string{"zy", "zz"}, "zy", [2]int{1, 2}, 25, [2]int{1, 1}},
		{manyWords(impl.MaxWords), "oammmmmmmmmm", [2]int{1, 26}, 12, [2]int{1, 1}},
	} {
		trie := mustTrie(t, c.set)
		w, chance, ok := impl.LikeliestDescent(trie)
		if !ok || w != c.likeliest || chance != c.chance {
			t.Errorf("LikeliestDescent(%q) = %q, %v, %v; want %q, %v", c.set, w, chance, ok, c.likeliest, c.chance)
		}
		letter, in, ok := impl.BestLetter(trie)
		if !ok || letter != c.letter || in != c.in {
			t.Errorf("BestLetter(%q) = %d, %v, %v; want %d, %v", c.set, letter, in, ok, c.letter, c.in)
		}
	}
}

func TestPromise9ChancesOfWords(t *testing.T) {
	words := []string{"card", "care", "cart", "cat", "dog", "door"}
	trie := mustTrie(t, words)
	for prefix, want := range map[string][2]int{
		"": {1, 1}, "c": {2, 3}, "ca": {2, 3}, "car": {1, 2}, "card": {1, 6}, "cat": {1, 6}, "d": {1, 3}, "do": {1, 3}, "dog": {1, 6}, "doo": {1, 6},
	} {
		node, _ := impl.NodeOf(trie, prefix)
		got, ok := impl.ChanceUnder(trie, node)
		checkFraction(t, "ChanceUnder "+prefix, words, got, ok, want)
	}
	for w, want := range map[string][2]int{
		"card": {1, 12}, "care": {1, 12}, "cart": {1, 12}, "cat": {1, 4}, "dog": {1, 4}, "door": {1, 4},
		// The Trie does not have these, of which some are prefixes, and others begin with words.
		"": {0, 1}, "c": {0, 1}, "car": {0, 1}, "doo": {0, 1}, "cats": {0, 1}, "cab": {0, 1}, "x": {0, 1}, "zzzzzzzzzzzz": {0, 1},
	} {
		got, ok := impl.ChanceOfDescent(trie, w)
		checkFraction(t, "ChanceOfDescent to "+w, words, got, ok, want)
	}
	for _, c := range []struct {
		set  []string
		w    string
		want [2]int
	}{
		{[]string{""}, "", [2]int{1, 1}}, {[]string{""}, "a", [2]int{0, 1}}, {[]string{"a"}, "a", [2]int{1, 1}}, {[]string{"a"}, "", [2]int{0, 1}},
		{[]string{"", "a"}, "", [2]int{1, 2}}, {[]string{"", "a"}, "a", [2]int{1, 2}}, {[]string{"abcdefghijkl"}, "abcdefghijkl", [2]int{1, 1}},
		{chainWords(13), fullRow("a"), [2]int{1, 4096}}, {chainWords(13), fullRow("a")[1:], [2]int{1, 4096}}, {chainWords(13), "aa", [2]int{1, 8}},
		{append([]string{""}, letterWords(alphabet)...), "z", [2]int{1, 27}}, {manyWords(impl.MaxWords), "abmmmmmmmmmm", [2]int{1, 52}},
		// Three Nodes with five choices, and nine with four.
		{deepChoices(), fullRow("a"), [2]int{1, 125 * 262144}}, {deepChoices(), fullRow("a")[1:] + "c", [2]int{1, 125 * 262144}},
		{deepChoices(), "z", [2]int{1, 5}}, {deepChoices(), "aaac", [2]int{1, 500}},
	} {
		got, ok := impl.ChanceOfDescent(mustTrie(t, c.set), c.w)
		checkFraction(t, "ChanceOfDescent to "+c.w, c.set, got, ok, c.want)
	}
}

func TestPromise9ChancesOfRandomTexts(t *testing.T) {
	for _, c := range []struct {
		set         []string
		k, n        int
		hit, begins [2]int
	}{
		// The Trie without words, and that of the empty word, with which each text begins.
		{nil, 1, 0, [2]int{0, 1}, [2]int{0, 1}}, {nil, 26, 0, [2]int{0, 1}, [2]int{0, 1}}, {nil, 26, 12, [2]int{0, 1}, [2]int{0, 1}},
		{[]string{""}, 1, 0, [2]int{1, 1}, [2]int{1, 1}}, {[]string{""}, 26, 0, [2]int{1, 1}, [2]int{1, 1}},
		{[]string{""}, 1, 12, [2]int{0, 1}, [2]int{1, 1}}, {[]string{""}, 26, 12, [2]int{0, 1}, [2]int{1, 1}},
		{[]string{"", "a"}, 2, 1, [2]int{1, 2}, [2]int{1, 1}}, {[]string{"", "z"}, 25, 1, [2]int{0, 1}, [2]int{1, 1}},
		{[]string{"a"}, 1, 1, [2]int{1, 1}, [2]int{1, 1}}, {[]string{"a"}, 26, 0, [2]int{0, 1}, [2]int{0, 1}},
		{[]string{"z"}, 25, 1, [2]int{0, 1}, [2]int{0, 1}}, {[]string{"z"}, 26, 1, [2]int{1, 26}, [2]int{1, 26}},
		{[]string{"a", "ab", "b"}, 1, 1, [2]int{1, 1}, [2]int{1, 1}}, {[]string{"a", "ab", "b"}, 1, 2, [2]int{0, 1}, [2]int{1, 1}},
		{[]string{"a", "ab", "b"}, 2, 2, [2]int{1, 4}, [2]int{1, 1}}, {[]string{"a", "ab", "b"}, 3, 1, [2]int{2, 3}, [2]int{2, 3}},
		{[]string{"a", "ab", "b"}, 3, 0, [2]int{0, 1}, [2]int{0, 1}}, {[]string{"a", "ab", "b"}, 26, 2, [2]int{1, 676}, [2]int{1, 13}},
		{[]string{"a", "ab", "b"}, 26, 12, [2]int{0, 1}, [2]int{1, 13}}, {[]string{"ab", "ac"}, 3, 1, [2]int{0, 1}, [2]int{0, 1}},
		{letterWords(alphabet), 26, 1, [2]int{1, 1}, [2]int{1, 1}}, {letterWords(alphabet), 13, 12, [2]int{0, 1}, [2]int{1, 1}},
		{fullRows("ab", 5), 2, 5, [2]int{1, 1}, [2]int{1, 1}}, {fullRows("ab", 5), 4, 5, [2]int{1, 32}, [2]int{1, 32}},
		{fullRows("ab", 5), 4, 4, [2]int{0, 1}, [2]int{0, 1}}, {fullRows("ab", 5), 4, 7, [2]int{0, 1}, [2]int{1, 32}},
		{chainWords(13), 1, 12, [2]int{1, 1}, [2]int{1, 1}}, {chainWords(13), 2, 12, [2]int{1, 4096}, [2]int{1, 1}},
		{chainWords(12)[1:], 2, 12, [2]int{0, 1}, [2]int{1, 2}}, {[]string{"aa", "ba", "bb", "c"}, 3, 4, [2]int{0, 1}, [2]int{2, 3}},
		// Texts of twelve letters, and words that have others than the first ones.
		{[]string{fullRow("a")}, 26, 12, [2]int{1, 95428956661682176}, [2]int{1, 95428956661682176}},
		{[]string{fullRow("z")}, 26, 12, [2]int{1, 95428956661682176}, [2]int{1, 95428956661682176}},
		{[]string{fullRow("z")}, 25, 12, [2]int{0, 1}, [2]int{0, 1}}, {[]string{fullRow("z")}, 26, 11, [2]int{0, 1}, [2]int{0, 1}},
		{[]string{fullRow("y")[1:], fullRow("z")}, 26, 12, [2]int{1, 95428956661682176}, [2]int{27, 95428956661682176}},
		{manyWords(impl.MaxWords), 26, 12, [2]int{5, 11928619582710272}, [2]int{5, 11928619582710272}},
		{manyWords(impl.MaxWords), 13, 12, [2]int{2, 1792160394037}, [2]int{2, 1792160394037}},
		{manyWords(impl.MaxWords), 12, 12, [2]int{0, 1}, [2]int{0, 1}},
	} {
		trie := mustTrie(t, c.set)
		hit, ok := impl.ChanceHit(trie, c.k, c.n)
		begins, fine := impl.ChanceBegins(trie, c.k, c.n)
		if !ok || !fine || hit != c.hit || begins != c.begins {
			t.Errorf("%q, %d of %d letters: ChanceHit = %v, %v, ChanceBegins = %v, %v; want %v, %v", c.set, c.n, c.k, hit, ok, begins, fine, c.hit, c.begins)
		}
	}
}

func TestPromise9ChancesOfTheSameStart(t *testing.T) {
	for _, c := range []struct {
		set  []string
		n    int
		want [2]int
	}{
		{[]string{""}, 0, [2]int{1, 1}}, {[]string{""}, 1, [2]int{0, 1}}, {[]string{""}, 12, [2]int{0, 1}}, {[]string{"a"}, 1, [2]int{1, 1}},
		{[]string{"a"}, 2, [2]int{0, 1}}, {[]string{"", "a"}, 0, [2]int{1, 1}}, {[]string{"", "a"}, 1, [2]int{1, 4}},
		{[]string{"a", "ab", "b"}, 0, [2]int{1, 1}}, {[]string{"a", "ab", "b"}, 1, [2]int{5, 9}}, {[]string{"a", "ab", "b"}, 2, [2]int{1, 9}},
		{[]string{"a", "ab", "b"}, 3, [2]int{0, 1}}, {[]string{"a", "ab", "b"}, 12, [2]int{0, 1}}, {[]string{"abcdefghijkl"}, 12, [2]int{1, 1}},
		{[]string{"aa", "ab", "ba", "bb"}, 1, [2]int{1, 2}}, {[]string{"aa", "ab", "ba", "bb"}, 2, [2]int{1, 4}},
		{letterWords(alphabet), 1, [2]int{1, 26}}, {chainWords(13), 12, [2]int{1, 169}}, {chainWords(13), 1, [2]int{144, 169}},
		{manyWords(impl.MaxWords), 1, [2]int{17, 400}}, {manyWords(impl.MaxWords), 2, [2]int{1, 40}}, {manyWords(impl.MaxWords), 12, [2]int{1, 40}},
	} {
		got, ok := impl.ChanceSameStart(mustTrie(t, c.set), c.n)
		checkFraction(t, "ChanceSameStart", c.set, got, ok, c.want)
	}
}

// badLengths are numbers outside 0..MaxLetters, and badFirsts are numbers outside 1..26.
var (
	badLengths = []int{math.MinInt, math.MinInt + 1, -1 << 32, -12, -2, -1, 13, 14, 26, 256, 1 << 32, 1<<32 + 1, math.MaxInt - 1, math.MaxInt}
	badFirsts  = []int{math.MinInt, math.MinInt + 1, -1 << 32, -26, -2, -1, 0, 27, 28, 52, 256, 257, 1 << 32, 1<<32 + 1, math.MaxInt - 1, math.MaxInt}
)

// chanceAnswer is a result of any function of chapter 9, with its name.
type chanceAnswer struct {
	name   string
	ok     bool
	number int
	text   string
	chance [2]int
}

// drawnAnswersOf calls all functions of chapter 9 that fail for the Trie without words, those of a
// word, a Node or a number with each of them.
func drawnAnswersOf(trie impl.Trie, texts []string, numbers []int) []chanceAnswer {
	all := []chanceAnswer{}
	put := func(name string, chance [2]int, ok bool) {
		all = append(all, chanceAnswer{name: name, ok: ok, chance: chance})
	}
	means := []func(impl.Trie) ([2]int, bool){impl.MeanLetters, impl.MeanDescent, impl.MeanCommon, impl.MeanUnique}
	for i, name := range []string{"MeanLetters", "MeanDescent", "MeanCommon", "MeanUnique"} {
		chance, ok := means[i](trie)
		put(name, chance, ok)
	}
	for _, w := range texts {
		chance, ok := impl.ChanceOfDescent(trie, w)
		put("ChanceOfDescent", chance, ok)
	}
	for _, n := range numbers {
		chance, ok := impl.ChanceUnder(trie, n)
		put("ChanceUnder", chance, ok)
		chance, ok = impl.ChanceSameStart(trie, n)
		put("ChanceSameStart", chance, ok)
	}
	text, chance, ok := impl.LikeliestDescent(trie)
	all = append(all, chanceAnswer{name: "LikeliestDescent", ok: ok, text: text, chance: chance})
	letter, chance, ok := impl.BestLetter(trie)
	return append(all, chanceAnswer{name: "BestLetter", ok: ok, number: letter, chance: chance})
}

// randomAnswersOf calls all functions of random texts with all numbers of letters.
func randomAnswersOf(trie impl.Trie, firsts, lengths []int) []chanceAnswer {
	all := []chanceAnswer{}
	for _, k := range firsts {
		for _, n := range lengths {
			hit, ok := impl.ChanceHit(trie, k, n)
			begins, fine := impl.ChanceBegins(trie, k, n)
			all = append(all, chanceAnswer{name: "ChanceHit", ok: ok, chance: hit}, chanceAnswer{name: "ChanceBegins", ok: fine, chance: begins})
		}
	}
	return all
}

// checkNoChances checks that all results are those of functions that fail.
func checkNoChances(t *testing.T, why string, all []chanceAnswer) {
	t.Helper()
	for _, a := range all {
		if (a != chanceAnswer{name: a.name}) {
			t.Errorf("%.40q: %v", why, a)
		}
	}
}

func TestPromise9InvalidTriesFail(t *testing.T) {
	for name, bad := range badTries() {
		checkNoChances(t, name, drawnAnswersOf(bad, append([]string{"", "a", "ab", "b"}, notWords...), append([]int{0, 1, 2, 12}, badLengths...)))
		checkNoChances(t, name, randomAnswersOf(bad, append([]int{1, 2, 26}, badFirsts...), append([]int{0, 1, 12}, badLengths...)))
	}
}

func TestPromise9NothingIsDrawnWithoutWords(t *testing.T) {
	none := mustTrie(t, nil)
	checkNoChances(t, "no words", drawnAnswersOf(none, append([]string{"", "a"}, notWords...), append([]int{0, 1, 12}, badLengths...)))
	for _, w := range []string{"", "a", "zzz", fullRow("a")} {
		if got, ok := impl.MeanCommon(mustTrie(t, []string{w})); ok || got != [2]int{} {
			t.Errorf("MeanCommon of %q alone = %v, %v", w, got, ok)
		}
	}
}

func TestPromise9InvalidNodesWordsAndNumbersFail(t *testing.T) {
	for _, set := range chanceSets() {
		trie := mustTrie(t, set)
		for _, node := range []int{len(trie.Nodes), len(trie.Nodes) + 1, -1, -2, math.MinInt, math.MaxInt, 1 << 32, -1 << 32} {
			if got, ok := impl.ChanceUnder(trie, node); ok || got != [2]int{} {
				t.Fatalf("ChanceUnder(%q, %d) = %v, %v", set, node, got, ok)
			}
		}
	}
	for _, set := range edgeSets() {
		trie := mustTrie(t, set)
		for _, w := range notWords {
			if got, ok := impl.ChanceOfDescent(trie, w); ok || got != [2]int{} {
				t.Fatalf("ChanceOfDescent(%q, %.40q) = %v, %v", set, w, got, ok)
			}
		}
		for _, n := range badLengths {
			if got, ok := impl.ChanceSameStart(trie, n); ok || got != [2]int{} {
				t.Fatalf("ChanceSameStart(%q, %d) = %v, %v", set, n, got, ok)
			}
		}
		checkNoChances(t, "firsts", randomAnswersOf(trie, badFirsts, append([]int{0, 1, 12}, badLengths...)))
		checkNoChances(t, "lengths", randomAnswersOf(trie, []int{1, 2, 25, 26}, badLengths))
		for k := 1; k <= 26; k++ {
			for _, a := range randomAnswersOf(trie, []int{k}, []int{0, 1, 2, 11, 12}) {
				if !a.ok {
					t.Fatalf("%q: %s of %d letters fails", set, a.name, k)
				}
			}
		}
	}
}

// TestPromise9ChancesAreFractions checks the form of all that is returned.
func TestPromise9ChancesAreFractions(t *testing.T) {
	numbers := []int{0, 1, 2, 3, 11, 12}
	for _, set := range chanceSets() {
		trie := mustTrie(t, set)
		for _, a := range append(drawnAnswersOf(trie, fewTexts(set), numbers), randomAnswersOf(trie, []int{1, 2, 6, 26}, numbers)...) {
			if !a.ok {
				continue
			}
			f := a.chance
			if f[0] < 0 || f[1] < 1 || plainFraction(ratOf(f)) != f {
				t.Fatalf("%s of %q = %v", a.name, set, f)
			}
			if !strings.HasPrefix(a.name, "Mean") && f[0] > f[1] {
				t.Fatalf("%s of %q is a chance, but %v", a.name, set, f)
			}
		}
	}
}

// chanceAnswersOf calls all functions of chapter 9.
func chanceAnswersOf(trie impl.Trie, texts []string, numbers []int) []chanceAnswer {
	return append(drawnAnswersOf(trie, texts, numbers), randomAnswersOf(trie, numbers, numbers)...)
}

func TestPromise13ChancesReturnForAllArguments(t *testing.T) {
	tries := badTries()
	for _, set := range append(edgeSets(), deepChoices(), primeChoices()) {
		tries["of "+strings.Join(set, " ")] = plainTrie(set)
	}
	texts := append([]string{"", "a", "ab", "b", "zz", fullRow("a")}, notWords...)
	numbers := slices.Concat([]int{0, 1, 2, 12, 25}, badLengths, badFirsts)
	for name, trie := range tries {
		before := copyTrie(trie)
		first := chanceAnswersOf(trie, texts, numbers)
		if again := chanceAnswersOf(trie, texts, numbers); !slices.Equal(first, again) {
			t.Errorf("%.20q: other results for the same arguments", name)
		}
		if !sameTrie(trie, before) {
			t.Errorf("%.20q: the Trie is modified", name)
		}
		for _, a := range first {
			if !a.ok && (a != chanceAnswer{name: a.name}) {
				t.Errorf("%.20q: %s fails with %v", name, a.name, a)
			}
		}
	}
}

func TestPromise13ChancesLeaveTheTrieAsItWas(t *testing.T) {
	for _, set := range append(edgeSets(), deepChoices()) {
		// Room behind the Nodes of an argument belongs to the caller.
		room := append(plainTrie(set).Nodes, nodeWith(5, 5, true), nodeWith(6, 6, true))
		before := slices.Clone(room)
		trie := impl.Trie{Nodes: room[:len(room)-2]}
		chanceAnswersOf(trie, append([]string{"a", "ab", "zzz", "A"}, set...), []int{-1, 0, 1, 2, 12, 26, 500})
		if !slices.Equal(room, before) {
			t.Fatalf("a function modified the Trie of %q", set)
		}
	}
}
