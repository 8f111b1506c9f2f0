package tests

import (
	"math"
	"slices"
	"strings"
	"testing"

	"loop.example/g01243/impl"
)

// plainGame tells a game out of the words alone. In the other one, who makes a fatal text wins.
type plainGame struct {
	set     []string
	n       int
	isOther bool
	// goesOn has the texts with one letter more than a text, in order.
	goesOn map[string][]string
}

func plainGameOf(set []string, n int) plainGame {
	goesOn := map[string][]string{}
	for _, prefix := range plainPrefixes(set)[1:] {
		above := prefix[:len(prefix)-1]
		goesOn[above] = append(goesOn[above], prefix)
	}
	return plainGame{set: set, n: n, goesOn: goesOn}
}

func (g plainGame) other() plainGame {
	g.isOther = true
	return g
}

func (g plainGame) isFatal(text string) bool {
	return len(text) >= g.n && slices.Contains(g.set, text)
}

// isOpen tries all beginnings of a text.
func (g plainGame) isOpen(text string) bool {
	for size := range len(text) + 1 {
		if g.isFatal(text[:size]) {
			return false
		}
	}
	return true
}

// loser returns the player who has lost as soon as a text is made, or -1.
func (g plainGame) loser(text string) int {
	added, next := 0, 1
	if len(text)%2 == 0 {
		added, next = 1, 0
	}
	switch {
	case g.isFatal(text) && g.isOther:
		return next
	case g.isFatal(text):
		return added
	case len(g.goesOn[text]) == 0:
		return next
	}
	return -1
}

// canForce reports whether a player can have the other one lose, whatever they do, when a text has
// been made and at most so many letters follow.
func (g plainGame) canForce(player int, text string, letters int) bool {
	if loser := g.loser(text); loser >= 0 {
		return loser != player
	}
	if letters == 0 {
		return false
	}
	forces := func(longer string) bool { return g.canForce(player, longer, letters-1) }
	fails := func(longer string) bool { return !forces(longer) }
	if len(text)%2 == player {
		return slices.ContainsFunc(g.goesOn[text], forces)
	}
	return !slices.ContainsFunc(g.goesOn[text], fails)
}

// wins reports whether who is to add a letter to a text can win.
func (g plainGame) wins(text string) bool {
	return g.canForce(len(text)%2, text, impl.MaxLetters)
}

// letters returns what can be added to a text such that the other one cannot win any more.
func (g plainGame) letters(text string) string {
	letters := ""
	for _, longer := range g.goesOn[text] {
		if g.canForce(len(text)%2, longer, impl.MaxLetters) {
			letters += longer[len(text):]
		}
	}
	return letters
}

// games returns all texts, from one on, with which somebody has lost.
func (g plainGame) games(text string) []string {
	return chosen(plainPrefixes(g.set), func(whole string) bool {
		return strings.HasPrefix(whole, text) && g.loser(whole) >= 0 && (whole == "" || g.isOpen(whole[:len(whole)-1]))
	})
}

// length returns within how many letters the one who can win can force it.
func (g plainGame) length(text string) int {
	winner := len(text) % 2
	if !g.wins(text) {
		winner = 1 - winner
	}
	letters := 0
	for !g.canForce(winner, text, letters) {
		letters++
	}
	return letters
}

// winner returns who can win from the empty text.
func (g plainGame) winner() int {
	if g.wins("") {
		return 0
	}
	return 1
}

// play returns the text that is made of some letters, and who has lost.
func (g plainGame) play(letters string) (string, int) {
	made := ""
	for g.loser(made) < 0 && made != letters {
		longer := letters[:len(made)+1]
		if !slices.Contains(g.goesOn[made], longer) {
			break
		}
		made = longer
	}
	return made, g.loser(made)
}

// best plays the game in which who wins adds the first letter that does, and who loses the first one.
func (g plainGame) best() string {
	made := ""
	for g.loser(made) < 0 {
		letters := g.letters(made)
		if letters == "" {
			letters = g.goesOn[made][0][len(made):]
		}
		made += letters[:1]
	}
	return made
}

// without returns a set of words without one of them.
func without(set []string, w string) []string {
	return chosen(set, func(other string) bool { return other != w })
}

// keys returns all words without which the other player wins.
func (g plainGame) keys() []string {
	return chosen(g.set, func(w string) bool {
		return plainGameOf(without(g.set, w), g.n).winner() != g.winner()
	})
}

// fatal returns all fatal words that no other fatal word begins.
func (g plainGame) fatal() []string {
	return chosen(g.set, func(w string) bool {
		return g.isFatal(w) && g.isOpen(w[:len(w)-1])
	})
}

// pairWords returns the first n letters, each alone and with another letter behind it. Where no word is
// fatal, player 1 wins as long as none of the longer ones is left out.
func pairWords(n int) []string {
	words := []string{}
	for k := range n {
		words = append(words, alphabet[k:k+1], alphabet[k:k+1]+"m")
	}
	return words
}

// gameSets returns sets of words with games of many forms.
func gameSets() [][]string {
	sets := append(edgeSets(), letterWords(alphabet), pairWords(20), fullRows("ab", 5), fullForks(), deepChoices())
	sets = append(sets, subsetsOf([]string{"", "a", "b", "ab", "ba", "aab", "aba", "baa"})...)
	m := mixed(111)
	for n := range 90 {
		sets = append(sets, mixedWords(&m, 1+n%impl.MaxWords, 2+n%3, 3+n%6))
	}
	return sets
}

// placeIn returns the Node with a prefix in the Trie of a set.
func placeIn(t *testing.T, set []string, prefix string) int {
	t.Helper()
	place := slices.Index(plainPrefixes(set), prefix)
	if place < 0 {
		t.Fatalf("%q has no Node in the Trie of %q", prefix, set)
	}
	return place
}

// view is all that is told of a Node.
type view struct {
	wins, other   bool
	letters       string
	games, length int
}

// mustView calls all functions of a Node, which must not fail.
func mustView(t *testing.T, trie impl.Trie, node, n int) view {
	t.Helper()
	wins, one := impl.GameWins(trie, node, n)
	other, two := impl.OtherWins(trie, node, n)
	letters, three := impl.WinningLetters(trie, node, n)
	games, four := impl.CountGames(trie, node, n)
	length, five := impl.GameLength(trie, node, n)
	if open, ok := impl.IsOpenNode(trie, node, n); !ok || !open {
		t.Fatalf("IsOpenNode(%v, %d, %d) = %v, %v", trie, node, n, open, ok)
	}
	if !one || !two || !three || !four || !five {
		t.Fatalf("%v, %d, %d: %v, %v, %v, %v, %v", trie, node, n, one, two, three, four, five)
	}
	return view{wins, other, letters, games, length}
}

// checkNoView checks that all functions of a Node fail, but IsOpenNode.
func checkNoView(t *testing.T, why string, trie impl.Trie, node, n int) {
	t.Helper()
	if got, ok := impl.GameWins(trie, node, n); ok || got {
		t.Fatalf("%.20q: GameWins(%d, %d) = %v, %v", why, node, n, got, ok)
	}
	if got, ok := impl.OtherWins(trie, node, n); ok || got {
		t.Fatalf("%.20q: OtherWins(%d, %d) = %v, %v", why, node, n, got, ok)
	}
	if got, ok := impl.WinningLetters(trie, node, n); ok || got != "" {
		t.Fatalf("%.20q: WinningLetters(%d, %d) = %q, %v", why, node, n, got, ok)
	}
	if got, ok := impl.CountGames(trie, node, n); ok || got != 0 {
		t.Fatalf("%.20q: CountGames(%d, %d) = %v, %v", why, node, n, got, ok)
	}
	if got, ok := impl.GameLength(trie, node, n); ok || got != 0 {
		t.Fatalf("%.20q: GameLength(%d, %d) = %v, %v", why, node, n, got, ok)
	}
}

// checkNoGame checks that all functions of no Node fail.
func checkNoGame(t *testing.T, why string, trie impl.Trie, n int) {
	t.Helper()
	if got, ok := impl.FirstWinner(trie, n); ok || got != 0 {
		t.Fatalf("%.20q: FirstWinner(%d) = %v, %v", why, n, got, ok)
	}
	if got, ok := impl.FatalWords(trie, n); ok || len(got) != 0 {
		t.Fatalf("%.20q: FatalWords(%d) = %q, %v", why, n, got, ok)
	}
	if got, ok := impl.KeyWords(trie, n); ok || len(got) != 0 {
		t.Fatalf("%.20q: KeyWords(%d) = %q, %v", why, n, got, ok)
	}
	if got, ok := impl.BestGame(trie, n); ok || got != "" {
		t.Fatalf("%.20q: BestGame(%d) = %q, %v", why, n, got, ok)
	}
}

// checkNoPlay checks that letters cannot be played.
func checkNoPlay(t *testing.T, why string, trie impl.Trie, n int, letters string) {
	t.Helper()
	if node, added, loser, ok := impl.PlayLetters(trie, n, letters); ok || node != 0 || added != 0 || loser != 0 {
		t.Fatalf("%.20q: PlayLetters(%d, %.20q) = %d, %d, %d, %v", why, n, letters, node, added, loser, ok)
	}
}

func TestPromise11OpenNodes(t *testing.T) {
	set := []string{"", "ab", "abcd", "abce", "abf", "b"}
	for _, c := range []struct {
		prefix string
		// open are the least lengths for which the Node is open.
		open []int
	}{
		{"", []int{1, 2, 3, 4, 5, 6}}, {"a", []int{1, 2, 3, 4, 5, 6}}, {"ab", []int{3, 4, 5, 6}}, {"abc", []int{3, 4, 5, 6}},
		{"abcd", []int{5, 6}}, {"abce", []int{5, 6}}, {"abf", []int{4, 5, 6}}, {"b", []int{2, 3, 4, 5, 6}},
	} {
		for n := 1; n <= impl.MaxLeast; n++ {
			want := slices.Contains(c.open, n)
			if got, ok := impl.IsOpenNode(mustTrie(t, set), placeIn(t, set, c.prefix), n); !ok || got != want {
				t.Errorf("IsOpenNode of %q, %d = %v, %v", c.prefix, n, got, ok)
			}
		}
	}
}

func TestPromise11OpenNodesOfWordsOfOneRow(t *testing.T) {
	set := chainWords(13)
	trie := mustTrie(t, set)
	for n := 1; n <= impl.MaxLeast; n++ {
		for node := range trie.Nodes {
			if got, ok := impl.IsOpenNode(trie, node, n); !ok || got != (node < n) {
				t.Errorf("IsOpenNode of %d, %d = %v, %v", node, n, got, ok)
			}
			if node >= n {
				checkNoView(t, "a row", trie, node, n)
			}
		}
	}
}

func TestPromise11Games(t *testing.T) {
	long := strings.Repeat("a", impl.MaxLetters)
	for _, c := range []struct {
		set    []string
		prefix string
		n      int
		want   view
	}{
		// No words, the empty word alone, and one word.
		{nil, "", 1, view{false, false, "", 1, 0}}, {nil, "", 6, view{false, false, "", 1, 0}},
		{[]string{""}, "", 1, view{false, false, "", 1, 0}}, {[]string{""}, "", 6, view{false, false, "", 1, 0}},
		{[]string{"a"}, "", 1, view{false, true, "", 1, 1}}, {[]string{"a"}, "", 2, view{true, true, "a", 1, 1}},
		{[]string{"", "a"}, "", 1, view{false, true, "", 1, 1}}, {[]string{"", "z"}, "", 2, view{true, true, "z", 1, 1}},
		{[]string{"a"}, "a", 2, view{false, false, "", 1, 0}}, {[]string{"a"}, "a", 6, view{false, false, "", 1, 0}},
		{[]string{"ab"}, "", 1, view{true, false, "a", 1, 2}}, {[]string{"ab"}, "", 2, view{true, false, "a", 1, 2}},
		{[]string{"ab"}, "", 3, view{false, false, "", 1, 2}}, {[]string{"ab"}, "a", 2, view{false, true, "", 1, 1}},
		{[]string{"ab"}, "a", 3, view{true, true, "b", 1, 1}}, {[]string{"ab"}, "ab", 3, view{false, false, "", 1, 0}},
		{[]string{long}, "", 1, view{true, false, "a", 1, 12}}, {[]string{long}, "", 6, view{true, false, "a", 1, 12}},
		{[]string{long}, "aaaaa", 6, view{false, true, "", 1, 7}}, {[]string{long}, long[1:], 6, view{false, true, "", 1, 1}},
		{[]string{long[1:]}, "", 6, view{false, true, "", 1, 11}},
		// Words that others begin with.
		{[]string{"a", "ab"}, "", 1, view{false, true, "", 1, 1}}, {[]string{"a", "ab"}, "", 2, view{true, false, "a", 1, 2}},
		{[]string{"a", "ab"}, "", 3, view{false, false, "", 1, 2}}, {[]string{"a", "ab"}, "a", 2, view{false, true, "", 1, 1}},
		{[]string{"ab", "abc", "b"}, "", 1, view{true, true, "a", 2, 2}}, {[]string{"ab", "abc", "b"}, "", 2, view{true, true, "ab", 2, 1}},
		{[]string{"ab", "abc", "b"}, "", 3, view{true, true, "b", 2, 1}}, {[]string{"ab", "abc", "b"}, "", 4, view{true, true, "ab", 2, 1}},
		{[]string{"ab", "abc", "b"}, "a", 2, view{false, true, "", 1, 1}}, {[]string{"ab", "abc", "b"}, "a", 3, view{true, false, "b", 1, 2}},
		{[]string{"ab", "abc", "b"}, "ab", 3, view{false, true, "", 1, 1}}, {[]string{"ab", "abc", "b"}, "ab", 4, view{true, true, "c", 1, 1}},
		{[]string{"ab", "abc", "b"}, "b", 2, view{false, false, "", 1, 0}}, {[]string{"ab", "abc", "b"}, "abc", 4, view{false, false, "", 1, 0}},
		{chainWords(13), "", 1, view{false, true, "", 1, 1}}, {chainWords(13), "", 2, view{true, false, "a", 1, 2}},
		{chainWords(13), "", 5, view{false, true, "", 1, 5}}, {chainWords(13), "", 6, view{true, false, "a", 1, 6}},
		{chainWords(13), "aaaaa", 6, view{false, true, "", 1, 1}}, {chainWords(13), "aaaa", 6, view{true, false, "a", 1, 2}},
		// Who loses delays, and who wins hurries, by the first letter or by another one.
		{[]string{"a", "bcd"}, "", 1, view{false, true, "", 2, 3}}, {[]string{"bcd", "e"}, "", 1, view{false, true, "", 2, 3}},
		{[]string{"ab", "cdef"}, "", 2, view{true, false, "ac", 2, 2}}, {[]string{"abcd", "ef"}, "", 2, view{true, false, "ae", 2, 2}},
		{[]string{"a", "bc"}, "", 1, view{true, true, "b", 2, 2}}, {[]string{"ab", "c"}, "", 1, view{true, true, "a", 2, 2}},
		{[]string{"abcd", "ef", "g"}, "", 1, view{true, true, "ae", 3, 2}}, {[]string{"ab", "abcd", "ae"}, "a", 3, view{true, true, "e", 2, 1}},
		{[]string{"abcdef", "abg", "ah"}, "a", 1, view{false, true, "", 3, 5}}, {[]string{"abcdef", "abg", "ah"}, "ab", 1, view{true, true, "c", 2, 4}},
		// Many kids.
		{letterWords(alphabet), "", 1, view{false, true, "", 26, 1}}, {letterWords(alphabet), "", 2, view{true, true, alphabet, 26, 1}},
		{pairWords(20), "", 1, view{false, true, "", 20, 1}}, {pairWords(20), "", 2, view{true, false, alphabet[:20], 20, 2}},
		{pairWords(20), "", 3, view{false, false, "", 20, 2}}, {pairWords(20), "t", 3, view{true, true, "m", 1, 1}},
		{fullRows("ab", 5), "", 5, view{false, true, "", 32, 5}}, {fullRows("ab", 5), "", 6, view{true, true, "ab", 32, 5}},
		{fullRows("ab", 5), "ba", 5, view{false, true, "", 8, 3}}, {fullRows("ab", 5), "baa", 5, view{true, false, "ab", 4, 2}},
		{manyWords(impl.MaxWords), "", 1, view{true, false, alphabet, 40, 12}}, {manyWords(impl.MaxWords), "a", 6, view{false, true, "", 2, 11}},
	} {
		if got := mustView(t, mustTrie(t, c.set), placeIn(t, c.set, c.prefix), c.n); got != c.want {
			t.Errorf("%q from %q on, least length %d: %v, not %v", c.set, c.prefix, c.n, got, c.want)
		}
	}
}

// checkNodes checks all Nodes of a set against plain games.
func checkNodes(t *testing.T, set []string, n int) {
	t.Helper()
	trie := mustTrie(t, set)
	g := plainGameOf(set, n)
	for node, prefix := range plainPrefixes(set) {
		if !g.isOpen(prefix) {
			if open, ok := impl.IsOpenNode(trie, node, n); !ok || open {
				t.Fatalf("IsOpenNode of %q, %q, %d = %v, %v", set, prefix, n, open, ok)
			}
			checkNoView(t, prefix, trie, node, n)
			continue
		}
		want := view{g.wins(prefix), g.other().wins(prefix), g.letters(prefix), len(g.games(prefix)), g.length(prefix)}
		if got := mustView(t, trie, node, n); got != want {
			t.Fatalf("%q from %q on, least length %d: %v, not %v", set, prefix, n, got, want)
		}
	}
}

func TestPromise11GamesFromAllNodes(t *testing.T) {
	for _, set := range gameSets() {
		for n := 1; n <= impl.MaxLeast; n++ {
			checkNodes(t, set, n)
		}
	}
}

// TestPromise11WhoWinsHasAWinningLetter checks the Nodes of a Trie by each other.
func TestPromise11WhoWinsHasAWinningLetter(t *testing.T) {
	for _, set := range gameSets() {
		trie := mustTrie(t, set)
		for n := 1; n <= impl.MaxLeast; n++ {
			for node := range trie.Nodes {
				wins, ok := impl.GameWins(trie, node, n)
				letters, fine := impl.WinningLetters(trie, node, n)
				if ok != fine || wins != (letters != "") {
					t.Fatalf("%q, %d, %d: GameWins = %v, %v, but WinningLetters = %q, %v", set, node, n, wins, ok, letters, fine)
				}
				if ok {
					checkLetters(t, trie, node, n, letters)
				}
			}
		}
	}
}

// checkLetters checks that just the winning letters lead to where the other player loses.
func checkLetters(t *testing.T, trie impl.Trie, node, n int, letters string) {
	t.Helper()
	winning := ""
	kids, _ := impl.KidsOf(trie, node)
	for _, kid := range kids {
		if wins, ok := impl.GameWins(trie, kid, n); ok && !wins {
			winning += string(rune('a' + trie.Nodes[kid].Letter))
		}
	}
	if winning != letters {
		t.Fatalf("%v, %d, %d: WinningLetters = %q, but who adds one of %q wins", trie, node, n, letters, winning)
	}
}

func TestPromise11FirstWinner(t *testing.T) {
	for _, c := range []struct {
		set []string
		n   int
		// want is the winner.
		want int
	}{
		{nil, 1, 1}, {nil, 2, 1}, {nil, 6, 1}, {[]string{""}, 1, 1}, {[]string{""}, 6, 1}, {[]string{"a"}, 1, 1}, {[]string{"a"}, 2, 0},
		{[]string{"a"}, 6, 0}, {[]string{"ab"}, 1, 0}, {[]string{"ab"}, 2, 0}, {[]string{"ab"}, 3, 1}, {[]string{"ab"}, 6, 1},
		{[]string{"abcdef"}, 6, 0}, {[]string{"abcde"}, 5, 1}, {[]string{"abcde"}, 6, 0}, {[]string{"ab", "abc", "b"}, 2, 0},
		{[]string{"a", "bcd"}, 1, 1}, {[]string{"a", "bcd"}, 2, 0}, {letterWords(alphabet), 1, 1}, {letterWords(alphabet), 2, 0},
		{pairWords(20), 1, 1}, {pairWords(20), 2, 0}, {pairWords(20), 3, 1}, {chainWords(13), 3, 1}, {chainWords(13), 4, 0},
		{manyWords(impl.MaxWords), 1, 0}, {manyWords(impl.MaxWords), 6, 0}, {[]string{fullRow("z")}, 6, 0},
	} {
		if got, ok := impl.FirstWinner(mustTrie(t, c.set), c.n); !ok || got != c.want {
			t.Errorf("FirstWinner(%q, %d) = %d, %v", c.set, c.n, got, ok)
		}
	}
}

func TestPromise11FirstWinnersCanForceIt(t *testing.T) {
	for _, set := range append(gameSets(), someSets()...) {
		trie := mustTrie(t, set)
		for n := 1; n <= impl.MaxLeast; n++ {
			want := plainGameOf(set, n).winner()
			if got, ok := impl.FirstWinner(trie, n); !ok || got != want {
				t.Fatalf("FirstWinner(%q, %d) = %d, %v", set, n, got, ok)
			}
		}
	}
}

func TestPromise11PlayLetters(t *testing.T) {
	set, long := []string{"ab", "abc", "b"}, strings.Repeat("a", impl.MaxLetters)
	for _, c := range []struct {
		set     []string
		n       int
		letters string
		// want is the Node, how many letters have been added, and the player who has lost.
		want [3]int
	}{
		// No letters, the middle of the way, and a letter that leads to no Node.
		{set, 1, "", [3]int{0, 0, -1}}, {set, 6, "", [3]int{0, 0, -1}}, {set, 1, "a", [3]int{1, 1, -1}}, {set, 2, "a", [3]int{1, 1, -1}},
		{set, 3, "ab", [3]int{2, 2, -1}}, {set, 2, "c", [3]int{0, 0, -1}}, {set, 2, "ac", [3]int{1, 1, -1}}, {set, 2, "acb", [3]int{1, 1, -1}},
		{set, 2, "z" + long[1:], [3]int{0, 0, -1}}, {set, 3, "abd", [3]int{2, 2, -1}}, {set, 3, "abab", [3]int{2, 2, -1}},
		// A fatal Node, with letters behind it and without.
		{set, 1, "b", [3]int{4, 1, 0}}, {set, 1, "bz", [3]int{4, 1, 0}}, {set, 1, "ab", [3]int{2, 2, 1}}, {set, 1, "abc", [3]int{2, 2, 1}},
		{set, 2, "ab", [3]int{2, 2, 1}}, {set, 2, "abc", [3]int{2, 2, 1}}, {set, 2, "abz", [3]int{2, 2, 1}}, {set, 2, "abcabcabcabc", [3]int{2, 2, 1}},
		{set, 3, "abc", [3]int{3, 3, 0}}, {set, 3, "abcd", [3]int{3, 3, 0}},
		// A Node without kids that is not fatal.
		{set, 2, "b", [3]int{4, 1, 1}}, {set, 2, "ba", [3]int{4, 1, 1}}, {set, 6, "bbbbbbbbbbbb", [3]int{4, 1, 1}}, {set, 4, "abc", [3]int{3, 3, 1}},
		{set, 4, "abca", [3]int{3, 3, 1}}, {[]string{"ab"}, 3, "ab", [3]int{2, 2, 0}}, {[]string{"ab"}, 3, "abb", [3]int{2, 2, 0}},
		{nil, 1, "", [3]int{0, 0, 0}}, {nil, 1, "a", [3]int{0, 0, 0}}, {nil, 6, "zz", [3]int{0, 0, 0}},
		{[]string{""}, 1, "", [3]int{0, 0, 0}}, {[]string{""}, 6, "a", [3]int{0, 0, 0}},
		// The most letters.
		{[]string{long}, 6, long, [3]int{12, 12, 1}}, {[]string{long}, 6, long[1:], [3]int{11, 11, -1}}, {[]string{long}, 1, long, [3]int{12, 12, 1}},
		{[]string{long[1:]}, 6, long, [3]int{11, 11, 0}}, {chainWords(13), 6, long, [3]int{6, 6, 1}}, {chainWords(13), 5, long, [3]int{5, 5, 0}},
		{chainWords(13), 1, long, [3]int{1, 1, 0}}, {chainWords(13), 6, long[:5], [3]int{5, 5, -1}},
		{manyWords(impl.MaxWords), 6, "zammmmmmmmmm", [3]int{466, 12, 1}}, {manyWords(impl.MaxWords), 6, "zbmmmmmmmmmm", [3]int{455, 1, -1}},
	} {
		node, added, loser, ok := impl.PlayLetters(mustTrie(t, c.set), c.n, c.letters)
		if got := [3]int{node, added, loser}; !ok || got != c.want {
			t.Errorf("PlayLetters(%q, %d, %q) = %v, %v, not %v", c.set, c.n, c.letters, got, ok, c.want)
		}
	}
}

func TestPromise11LettersArePlayedInTurns(t *testing.T) {
	for _, set := range gameSets() {
		trie := mustTrie(t, set)
		prefixes := plainPrefixes(set)
		texts := chosen(append(nearTexts(set), textsOver("abc", 3)...), impl.IsWord)
		for n := 1; n <= impl.MaxLeast; n++ {
			g := plainGameOf(set, n)
			for _, letters := range texts {
				made, lost := g.play(letters)
				node, added, loser, ok := impl.PlayLetters(trie, n, letters)
				if !ok || node != slices.Index(prefixes, made) || added != len(made) || loser != lost {
					t.Fatalf("PlayLetters(%q, %d, %q) = %d, %d, %d, %v; want %q, %d", set, n, letters, node, added, loser, ok, made, lost)
				}
			}
		}
	}
}

// TestPromise11AllGamesArePlayedToTheirEnds checks the numbers of games by those that are played.
func TestPromise11AllGamesArePlayedToTheirEnds(t *testing.T) {
	for _, set := range gameSets() {
		trie := mustTrie(t, set)
		for n := 1; n <= impl.MaxLeast; n++ {
			games := 0
			for node, prefix := range plainPrefixes(set) {
				at, added, loser, ok := impl.PlayLetters(trie, n, prefix)
				if !ok {
					t.Fatalf("PlayLetters(%q, %d, %q) fails", set, n, prefix)
				}
				if at == node && added == len(prefix) && loser >= 0 {
					games++
				}
			}
			if got, ok := impl.CountGames(trie, 0, n); !ok || got != games {
				t.Fatalf("CountGames(%q, 0, %d) = %d, %v, but %d are played", set, n, got, ok, games)
			}
		}
	}
}

func TestPromise11FatalWords(t *testing.T) {
	set := []string{"", "ab", "abcd", "abce", "abf", "b"}
	for _, c := range []struct {
		set  []string
		n    int
		want []string
	}{
		{nil, 1, nil}, {nil, 6, nil}, {[]string{""}, 1, nil}, {[]string{""}, 6, nil}, {[]string{"a"}, 1, []string{"a"}}, {[]string{"a"}, 2, nil},
		{[]string{"", "a"}, 1, []string{"a"}}, {[]string{"a", "ab"}, 1, []string{"a"}}, {[]string{"a", "ab"}, 2, []string{"ab"}},
		{[]string{"a", "ab"}, 3, nil}, {set, 1, []string{"ab", "b"}}, {set, 2, []string{"ab"}}, {set, 3, []string{"abcd", "abce", "abf"}},
		{set, 4, []string{"abcd", "abce"}}, {set, 5, nil}, {set, 6, nil}, {[]string{"abcdef"}, 6, []string{"abcdef"}}, {[]string{"abcde"}, 6, nil},
		{[]string{"abcdefghijkl"}, 6, []string{"abcdefghijkl"}}, {chainWords(13), 1, []string{"a"}}, {chainWords(13), 6, []string{"aaaaaa"}},
		{letterWords(alphabet), 1, letterWords(alphabet)}, {letterWords(alphabet), 2, nil}, {pairWords(20), 1, letterWords(alphabet[:20])},
		{manyWords(impl.MaxWords), 1, manyWords(impl.MaxWords)}, {manyWords(impl.MaxWords), 6, manyWords(impl.MaxWords)},
	} {
		if got, ok := impl.FatalWords(mustTrie(t, c.set), c.n); !ok || !slices.Equal(got, c.want) {
			t.Errorf("FatalWords(%q, %d) = %q, %v", c.set, c.n, got, ok)
		}
	}
}

func TestPromise11KeyWords(t *testing.T) {
	set := []string{"ab", "abc", "b"}
	for _, c := range []struct {
		set  []string
		n    int
		want []string
	}{
		{nil, 1, nil}, {nil, 6, nil}, {[]string{""}, 1, nil}, {[]string{""}, 6, nil}, {[]string{"a"}, 1, nil}, {[]string{"a"}, 2, []string{"a"}},
		{[]string{"", "a"}, 2, []string{"a"}}, {[]string{"ab"}, 2, []string{"ab"}}, {[]string{"ab"}, 3, nil}, {[]string{fullRow("z")}, 6, []string{fullRow("z")}},
		{set, 1, []string{"ab"}}, {set, 2, nil}, {set, 3, []string{"b"}}, {set, 4, nil}, {[]string{"a", "ab"}, 1, []string{"a"}}, {[]string{"a", "ab"}, 2, nil},
		// Player 1 wins with both pairs, but not without the longer word of one.
		{[]string{"a", "ab", "c", "cd"}, 3, []string{"ab", "cd"}}, {[]string{"a", "ab", "c", "cd"}, 2, nil}, {[]string{"ab", "cd"}, 3, nil},
		{pairWords(20), 3, chosen(pairWords(20), func(w string) bool { return len(w) == 2 })}, {pairWords(20), 2, nil}, {pairWords(2), 1, []string{"a", "b"}},
		{letterWords(alphabet), 1, nil}, {letterWords(alphabet), 2, nil}, {manyWords(impl.MaxWords), 1, nil}, {manyWords(impl.MaxWords), 6, nil},
		{chainWords(13), 1, []string{"a"}}, {chainWords(13), 6, []string{"aaaaaa"}}, {chainWords(7), 6, nil}, {chainWords(6), 6, []string{"aaaaa"}},
	} {
		if got, ok := impl.KeyWords(mustTrie(t, c.set), c.n); !ok || !slices.Equal(got, c.want) {
			t.Errorf("KeyWords(%q, %d) = %q, %v", c.set, c.n, got, ok)
		}
	}
}

// TestPromise11WithoutKeyWordsTheOtherPlayerWins drops each word, a key word or not.
func TestPromise11WithoutKeyWordsTheOtherPlayerWins(t *testing.T) {
	several := 0
	for _, set := range gameSets() {
		trie := mustTrie(t, set)
		for n := 1; n <= impl.MaxLeast; n++ {
			winner, _ := impl.FirstWinner(trie, n)
			keys, ok := impl.KeyWords(trie, n)
			if !ok || !slices.IsSorted(keys) {
				t.Fatalf("KeyWords(%q, %d) = %q, %v", set, n, keys, ok)
			}
			if len(keys) > 1 {
				several++
			}
			for _, w := range set {
				rest, _ := impl.DropWord(trie, w)
				now, _ := impl.FirstWinner(rest, n)
				if slices.Contains(keys, w) != (now != winner) {
					t.Fatalf("KeyWords(%q, %d) = %q, but without %q player %d wins, and not player %d", set, n, keys, w, now, winner)
				}
			}
		}
	}
	if several < 50 {
		t.Errorf("only %d sets have several key words", several)
	}
}

func TestPromise11BestGame(t *testing.T) {
	for _, c := range []struct {
		set  []string
		n    int
		want string
	}{
		{nil, 1, ""}, {nil, 6, ""}, {[]string{""}, 1, ""}, {[]string{""}, 6, ""}, {[]string{"a"}, 1, "a"}, {[]string{"a"}, 2, "a"},
		{[]string{"ab"}, 1, "ab"}, {[]string{"ab"}, 3, "ab"}, {[]string{"a", "ab"}, 1, "a"}, {[]string{"a", "ab"}, 2, "ab"},
		{[]string{"ab", "abc", "b"}, 1, "ab"}, {[]string{"ab", "abc", "b"}, 2, "ab"}, {[]string{"ab", "abc", "b"}, 3, "b"},
		{[]string{"ab", "abc", "b"}, 4, "abc"}, {[]string{"ab", "abc", "b"}, 6, "abc"},
		// Who loses may lose at once, and who wins need not hurry.
		{[]string{"a", "bcd"}, 1, "a"}, {[]string{"bcd", "e"}, 1, "bcd"}, {[]string{"abcd", "ef"}, 2, "abcd"}, {[]string{"a", "bc"}, 1, "bc"},
		{[]string{"abcdef", "abg", "ah"}, 1, "abcdef"}, {letterWords(alphabet), 1, "a"}, {letterWords(alphabet), 2, "a"},
		{pairWords(20), 2, "am"}, {pairWords(20), 3, "am"}, {chainWords(13), 1, "a"}, {chainWords(13), 6, "aaaaaa"},
		{[]string{fullRow("z")}, 6, fullRow("z")}, {fullRows("ab", 5), 5, "aaaaa"}, {manyWords(impl.MaxWords), 6, "aammmmmmmmmm"},
	} {
		if got, ok := impl.BestGame(mustTrie(t, c.set), c.n); !ok || got != c.want {
			t.Errorf("BestGame(%q, %d) = %q, %v", c.set, c.n, got, ok)
		}
	}
}

func TestPromise11GamesOfSets(t *testing.T) {
	for _, set := range gameSets() {
		trie := mustTrie(t, set)
		for n := 1; n <= impl.MaxLeast; n++ {
			g := plainGameOf(set, n)
			if got, ok := impl.FatalWords(trie, n); !ok || !slices.Equal(got, g.fatal()) {
				t.Fatalf("FatalWords(%q, %d) = %q, %v", set, n, got, ok)
			}
			if got, ok := impl.KeyWords(trie, n); !ok || !slices.Equal(got, g.keys()) {
				t.Fatalf("KeyWords(%q, %d) = %q, %v", set, n, got, ok)
			}
			best, ok := impl.BestGame(trie, n)
			if !ok || best != g.best() {
				t.Fatalf("BestGame(%q, %d) = %q, %v", set, n, best, ok)
			}
			// The best game ends with its last letter, and who was to win it does.
			winner, _ := impl.FirstWinner(trie, n)
			if _, added, loser, ok := impl.PlayLetters(trie, n, best); !ok || added != len(best) || loser != 1-winner {
				t.Fatalf("PlayLetters(%q, %d, %q) = %d, %d, %v, but player %d wins", set, n, best, added, loser, ok, winner)
			}
		}
	}
}

// badLeasts are numbers outside 1..MaxLeast.
var badLeasts = []int{math.MinInt, math.MinInt + 1, -1 << 32, -6, -2, -1, 0, impl.MaxLeast + 1, impl.MaxLeast + 2, 12, 256, 257, 1 << 32, 1<<32 + 1, math.MaxInt - 1, math.MaxInt}

// checkFailing checks that all functions of chapter 11 fail.
func checkFailing(t *testing.T, why string, trie impl.Trie, nodes, leasts []int, texts []string) {
	t.Helper()
	for _, n := range leasts {
		checkNoGame(t, why, trie, n)
		for _, node := range nodes {
			checkNoView(t, why, trie, node, n)
			if got, ok := impl.IsOpenNode(trie, node, n); ok || got {
				t.Fatalf("%.20q: IsOpenNode(%d, %d) = %v, %v", why, node, n, got, ok)
			}
		}
		for _, letters := range texts {
			checkNoPlay(t, why, trie, n, letters)
		}
	}
}

func TestPromise11InvalidTriesFail(t *testing.T) {
	texts := append([]string{"", "a", "ab", "b"}, notWords...)
	for name, bad := range badTries() {
		checkFailing(t, name, bad, []int{0, 1, 2, -1, 481, math.MaxInt}, append([]int{1, 2, impl.MaxLeast}, badLeasts...), texts)
	}
}

func TestPromise11InvalidNumbersFail(t *testing.T) {
	for _, set := range edgeSets() {
		checkFailing(t, "numbers", mustTrie(t, set), []int{0, 1, -1, 500}, badLeasts, append([]string{"", "a"}, notWords...))
	}
}

func TestPromise11InvalidNodesFail(t *testing.T) {
	for _, set := range edgeSets() {
		trie := mustTrie(t, set)
		for _, node := range []int{-1, -2, math.MinInt, -1 << 32, len(trie.Nodes), len(trie.Nodes) + 1, 481, 1 << 32, math.MaxInt} {
			for n := 1; n <= impl.MaxLeast; n++ {
				checkNoView(t, "nodes", trie, node, n)
				if got, ok := impl.IsOpenNode(trie, node, n); ok || got {
					t.Fatalf("IsOpenNode(%q, %d, %d) = %v, %v", set, node, n, got, ok)
				}
			}
		}
	}
}

func TestPromise11NotWordsAreNotPlayed(t *testing.T) {
	letters := append([]string{strings.Repeat("ab", 7), "abC", "b!", "b\x00", "abcdefghijklm"}, notWords...)
	for _, set := range edgeSets() {
		for n := 1; n <= impl.MaxLeast; n++ {
			for _, text := range letters {
				// Not even where the game ends ahead of what is no letter.
				checkNoPlay(t, "no word", mustTrie(t, set), n, text)
			}
		}
	}
}

// gameAnswer is what a function of chapter 11 returns, with its name.
type gameAnswer struct {
	name    string
	ok      bool
	isSo    bool
	numbers [3]int
	text    string
	words   []string
}

func sameGameAnswer(a, b gameAnswer) bool {
	return a.name == b.name && a.ok == b.ok && a.isSo == b.isSo && a.numbers == b.numbers && a.text == b.text && slices.Equal(a.words, b.words)
}

// gameAnswersOf calls all functions of chapter 11.
func gameAnswersOf(trie impl.Trie, nodes, leasts []int, texts []string) []gameAnswer {
	all := []gameAnswer{}
	for _, n := range leasts {
		for _, node := range nodes {
			isSo, ok := impl.IsOpenNode(trie, node, n)
			all = append(all, gameAnswer{name: "IsOpenNode", ok: ok, isSo: isSo})
			isSo, ok = impl.GameWins(trie, node, n)
			all = append(all, gameAnswer{name: "GameWins", ok: ok, isSo: isSo})
			isSo, ok = impl.OtherWins(trie, node, n)
			all = append(all, gameAnswer{name: "OtherWins", ok: ok, isSo: isSo})
			text, ok := impl.WinningLetters(trie, node, n)
			all = append(all, gameAnswer{name: "WinningLetters", ok: ok, text: text})
			number, ok := impl.CountGames(trie, node, n)
			all = append(all, gameAnswer{name: "CountGames", ok: ok, numbers: [3]int{number}})
			number, ok = impl.GameLength(trie, node, n)
			all = append(all, gameAnswer{name: "GameLength", ok: ok, numbers: [3]int{number}})
		}
		for _, letters := range texts {
			node, added, loser, ok := impl.PlayLetters(trie, n, letters)
			all = append(all, gameAnswer{name: "PlayLetters", ok: ok, numbers: [3]int{node, added, loser}})
		}
		number, ok := impl.FirstWinner(trie, n)
		all = append(all, gameAnswer{name: "FirstWinner", ok: ok, numbers: [3]int{number}})
		words, ok := impl.FatalWords(trie, n)
		all = append(all, gameAnswer{name: "FatalWords", ok: ok, words: words})
		words, ok = impl.KeyWords(trie, n)
		all = append(all, gameAnswer{name: "KeyWords", ok: ok, words: words})
		text, ok := impl.BestGame(trie, n)
		all = append(all, gameAnswer{name: "BestGame", ok: ok, text: text})
	}
	return all
}

func TestPromise13GamesReturnForAllArguments(t *testing.T) {
	tries := badTries()
	for _, set := range append(edgeSets(), pairWords(20), deepChoices()) {
		tries["of "+strings.Join(set, " ")] = plainTrie(set)
	}
	nodes := []int{0, 1, 2, 5, 13, 480, 481, -1, math.MinInt, math.MaxInt}
	leasts := append([]int{1, 2, 3, impl.MaxLeast}, badLeasts...)
	texts := append([]string{"", "a", "ab", "b", fullRow("a")}, notWords...)
	for name, trie := range tries {
		before := copyTrie(trie)
		first := gameAnswersOf(trie, nodes, leasts, texts)
		if again := gameAnswersOf(trie, nodes, leasts, texts); !slices.EqualFunc(first, again, sameGameAnswer) {
			t.Errorf("%.20q: other results for the same arguments", name)
		}
		if !sameTrie(trie, before) {
			t.Errorf("%.20q: the Trie is modified", name)
		}
		for _, a := range first {
			if !a.ok && !sameGameAnswer(a, gameAnswer{name: a.name}) {
				t.Errorf("%.20q: %s fails with %v", name, a.name, a)
			}
		}
	}
}

func TestPromise13GamesLeaveTheTrieAsItWas(t *testing.T) {
	for _, set := range append(edgeSets(), pairWords(20)) {
		// Room behind the Nodes of an argument belongs to the caller.
		room := append(plainTrie(set).Nodes, nodeWith(5, 5, true), nodeWith(6, 6, true))
		before := slices.Clone(room)
		trie := impl.Trie{Nodes: room[:len(room)-2]}
		gameAnswersOf(trie, []int{-1, 0, 1, 2, len(trie.Nodes) - 1, len(trie.Nodes)}, []int{0, 1, 2, 3, 4, 5, 6, 7}, append([]string{"a", "ab", "zzz", "A"}, set...))
		if !slices.Equal(room, before) {
			t.Fatalf("a function modified the Trie of %q", set)
		}
	}
}

func TestPromise13GamesShareNoMemory(t *testing.T) {
	leasts := []int{1, 2, 3, impl.MaxLeast}
	for _, set := range [][]string{{"ab", "abc", "b"}, letterWords(alphabet), pairWords(20), manyWords(impl.MaxWords)} {
		trie := mustTrie(t, set)
		first := gameAnswersOf(trie, []int{0, 1}, leasts, set)
		want := gameAnswersOf(trie, []int{0, 1}, leasts, set)
		for _, a := range gameAnswersOf(trie, []int{0, 1}, leasts, set) {
			spoil(a.words, "spoilt")
			// Room behind a result is nobody else's either.
			_ = append(a.words, "spoilt")
		}
		again := gameAnswersOf(trie, []int{0, 1}, leasts, set)
		if !slices.EqualFunc(first, want, sameGameAnswer) || !slices.EqualFunc(again, want, sameGameAnswer) {
			t.Fatalf("results for %q share memory", set)
		}
	}
}
