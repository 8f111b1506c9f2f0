package tests

import (
	"math"
	"regexp"
	"slices"
	"strings"
	"testing"

	"loop.example/g01243/impl"
)

// plainBook is a Book as the document tells it: some words, a prefix and a number.
type plainBook struct {
	words []string
	at    string
	count int
}

var bookWord = regexp.MustCompile(`^[a-z]{1,12}$`)

func (p plainBook) isValid() bool {
	areWords := !slices.ContainsFunc(p.words, func(w string) bool { return !bookWord.MatchString(w) })
	return areWords && len(p.words) <= impl.MaxWords && slices.Equal(p.words, sortedSet(p.words)) &&
		slices.Contains(plainPrefixes(p.words), p.at) && p.count >= 0 && p.count <= impl.MaxDeeds
}

func (p plainBook) book() impl.Book {
	return impl.Book{Words: strings.Join(p.words, " "), At: p.at, Count: p.count}
}

// behind returns what is behind a Deed, and whether the Deed is possible.
func (p plainBook) behind(d impl.Deed) (plainBook, bool) {
	isPossible := false
	switch d.Kind {
	case impl.DeedAdd:
		isPossible = bookWord.MatchString(d.Word) && !slices.Contains(p.words, d.Word)
		p.words = sortedSet(append(slices.Clone(p.words), d.Word))
	case impl.DeedDrop:
		isPossible = slices.Contains(p.words, d.Word)
		p.words = without(p.words, d.Word)
	case impl.DeedDown:
		isPossible = len(d.Word) == 1
		p.at += d.Word
	case impl.DeedUp:
		isPossible = p.at != "" && d.Word == ""
		p.at = p.at[:max(len(p.at)-1, 0)]
	case impl.DeedTop:
		isPossible = p.at != "" && d.Word == ""
		p.at = ""
	}
	p.count++
	return p, isPossible && p.isValid()
}

// someDeeds are Deeds of each Kind, and of none, with texts that are possible for some Books.
func someDeeds() []impl.Deed {
	deeds := []impl.Deed{}
	for _, kind := range []int{impl.DeedAdd, impl.DeedDrop, impl.DeedDown, impl.DeedUp, impl.DeedTop, 0, 6, -1, math.MinInt, math.MaxInt} {
		for _, w := range append(textsOver("ab", 3), "z", "A", " ", "a b", "ab a", " a", "a ", "\u00e9", fullRow("a"), fullRow("a")+"a") {
			deeds = append(deeds, impl.Deed{Kind: kind, Word: w})
		}
	}
	return deeds
}

// smallBooks are the Books of all sets of some short words, with each At, and with Counts at the
// edges.
func smallBooks() []plainBook {
	books := []plainBook{}
	for _, set := range subsetsOf([]string{"a", "ab", "abb", "b", "ba"}) {
		for _, at := range plainPrefixes(set) {
			for _, count := range []int{0, 7, impl.MaxDeeds - 2, impl.MaxDeeds - 1, impl.MaxDeeds} {
				books = append(books, plainBook{set, at, count})
			}
		}
	}
	return books
}

// edgeBooks are the Books of sets at the edges of what a Book can keep, with some Ats.
func edgeBooks() []plainBook {
	books := []plainBook{}
	for _, set := range append(edgeSets(), fullRows("ab", 5), letterWords(alphabet), pairWords(20), deepChoices(), fewShared(impl.MaxWords)) {
		set = without(set, "")
		prefixes := plainPrefixes(set)
		for _, at := range []string{"", prefixes[len(prefixes)/2], prefixes[len(prefixes)-1]} {
			books = append(books, plainBook{set, at, len(at)})
		}
	}
	return books
}

// mustBook returns a plain Book, which has to be valid.
func mustBook(t *testing.T, p plainBook) impl.Book {
	t.Helper()
	if !p.isValid() || !impl.IsBook(p.book()) {
		t.Fatalf("%v is not valid", p)
	}
	return p.book()
}

// badBooks are Books that are not valid, by what is wrong with them.
func badBooks() map[string]impl.Book {
	most := strings.Join(manyWords(impl.MaxWords), " ")
	return map[string]impl.Book{
		"a word too many":         {Words: strings.Join(manyWords(impl.MaxWords+1), " ")},
		"many words":              {Words: strings.Join(sortedSet(textsOver("ab", 12)[1:]), " ")},
		"a word too long":         {Words: fullRow("a") + "a"},
		"a word too long behind":  {Words: "a " + fullRow("b") + "b"},
		"a very long word":        {Words: strings.Repeat("a", 100000)},
		"not in order":            {Words: "b a"},
		"the longer one first":    {Words: "ab a"},
		"a word twice":            {Words: "a a"},
		"a word twice of many":    {Words: "a b b c"},
		"two spaces":              {Words: "a  b"},
		"a space in front":        {Words: " a b"},
		"a space behind":          {Words: "a b "},
		"nothing but a space":     {Words: " "},
		"very many spaces":        {Words: strings.Repeat(" ", 100000)},
		"the most and a space":    {Words: most + " "},
		"a tab":                   {Words: "a\tb"},
		"a line":                  {Words: "a\nb"},
		"the end of a line":       {Words: "a b\n"},
		"a space that is no byte": {Words: "a\u00a0b"},
		"a sign between":          {Words: "a,b"},
		"a great letter":          {Words: "A b"},
		"a sign ahead of a":       {Words: "` b"},
		"a sign behind z":         {Words: "a {"},
		"a byte of no letter":     {Words: "a \xff"},
		"a letter of two bytes":   {Words: "a \u00e9"},
		"a byte of zero":          {Words: "\x00"},
		"At without words":        {At: "a"},
		"At of no word":           {Words: "ab b", At: "c"},
		"At behind a word":        {Words: "ab b", At: "aba"},
		"At beside a word":        {Words: "ab b", At: "aa"},
		"At at the end of words":  {Words: "ab b", At: "ab b"},
		"At of a great letter":    {Words: "ab b", At: "A"},
		"At of a space":           {Words: "ab b", At: " "},
		"At of a byte":            {Words: "ab b", At: "\xff"},
		"At too long":             {Words: fullRow("a"), At: fullRow("a") + "a"},
		"At very long":            {Words: "a", At: strings.Repeat("a", 100000)},
		"a Count below 0":         {Words: "a", Count: -1},
		"a Count too great":       {Words: "a", Count: impl.MaxDeeds + 1},
		"the least Count":         {Count: math.MinInt},
		"the greatest Count":      {Words: "a", Count: math.MaxInt},
		"a Count of many bits":    {Words: "a", Count: 1 << 32},
	}
}

func TestPromise12IsBook(t *testing.T) {
	most := strings.Join(manyWords(impl.MaxWords), " ")
	for _, b := range []impl.Book{
		{}, {Count: 1}, {Count: impl.MaxDeeds}, {Words: "a"}, {Words: "a", At: "a"}, {Words: "ab abc b", At: "abc", Count: 3},
		{Words: "ab abc b", At: "a", Count: impl.MaxDeeds}, {Words: fullRow("z"), At: fullRow("z")[1:]}, {Words: most}, {Words: most, At: "bbmmm"},
	} {
		if !impl.IsBook(b) {
			t.Errorf("IsBook(%+v) is false", b)
		}
	}
	if len(most) != 519 {
		t.Fatalf("the most words have %d bytes", len(most))
	}
	for name, b := range badBooks() {
		if impl.IsBook(b) {
			t.Errorf("IsBook is true for a Book with %s", name)
		}
	}
	for _, p := range append(smallBooks(), edgeBooks()...) {
		mustBook(t, p)
	}
}

// TestPromise12IsBookOfTexts tries all texts of a few signs as the words.
func TestPromise12IsBookOfTexts(t *testing.T) {
	valid := 0
	for _, words := range textsOver("abA \n", 5) {
		for _, at := range []string{"", "a", "b", "ab", "A", " "} {
			p := plainBook{words: strings.Split(words, " "), at: at}
			if words == "" {
				p.words = nil
			}
			if p.isValid() {
				valid++
			}
			if impl.IsBook(p.book()) != p.isValid() {
				t.Fatalf("IsBook(%q, %q) is %v", words, at, !p.isValid())
			}
		}
	}
	if valid < 100 {
		t.Errorf("only %d are valid", valid)
	}
}

func TestPromise12NewBook(t *testing.T) {
	most := manyWords(impl.MaxWords)
	turnedMost := slices.Clone(most)
	slices.Reverse(turnedMost)
	for _, c := range []struct {
		words []string
		want  string
	}{
		{nil, ""}, {[]string{}, ""}, {[]string{"a"}, "a"}, {[]string{"b", "ab", "a", "b"}, "a ab b"}, {[]string{"z", "z", "z"}, "z"},
		{[]string{"abc", "ab", "b"}, "ab abc b"}, {[]string{fullRow("a")}, fullRow("a")}, {most, strings.Join(most, " ")},
		{turnedMost, strings.Join(most, " ")}, {slices.Concat(most, turnedMost, most), strings.Join(most, " ")}, {slices.Repeat([]string{"a", "b"}, 10000), "a b"},
	} {
		b, ok := impl.NewBook(c.words)
		if !ok || b != (impl.Book{Words: c.want}) || !impl.IsBook(b) {
			t.Errorf("NewBook(%.60q) = %+v, %v", c.words, b, ok)
		}
	}
	bad := [][]string{
		{""}, {"a", ""}, {"", "a"}, append([]string{""}, most[1:]...), manyWords(impl.MaxWords + 1), slices.Concat(most, most, []string{"a"}),
		sortedSet(textsOver("ab", 8)[1:]), {"a b"}, {"a", " "}, make([]string, 100000), append(slices.Clone(most), ""),
	}
	for _, w := range notWords {
		bad = append(bad, []string{w}, []string{"a", w, "b"})
	}
	for _, words := range bad {
		if b, ok := impl.NewBook(words); ok || b != (impl.Book{}) {
			t.Errorf("NewBook(%.60q) = %+v, %v", words, b, ok)
		}
	}
}

func TestPromise12BooksAndTheirTries(t *testing.T) {
	m := mixed(12)
	for _, set := range someSets() {
		words := without(set, "")
		mixedOrder := slices.Clone(words)
		for i := range mixedOrder {
			other := m.below(i + 1)
			mixedOrder[i], mixedOrder[other] = mixedOrder[other], mixedOrder[i]
		}
		b, ok := impl.NewBook(mixedOrder)
		if !ok || b != (plainBook{words: words}).book() {
			t.Fatalf("NewBook(%q) = %+v, %v", mixedOrder, b, ok)
		}
		for _, at := range plainPrefixes(words) {
			trie, ok := impl.TrieOfBook(impl.Book{Words: b.Words, At: at, Count: len(at)})
			if !ok || !sameTrie(trie, plainTrie(words)) {
				t.Fatalf("TrieOfBook(%q, %q) = %v, %v", b.Words, at, trie, ok)
			}
		}
	}
	for name, b := range badBooks() {
		if trie, ok := impl.TrieOfBook(b); ok || len(trie.Nodes) != 0 {
			t.Errorf("a Book with %s has the Trie %v, %v", name, trie, ok)
		}
	}
}

func TestPromise12DoDeed(t *testing.T) {
	most := manyWords(impl.MaxWords)
	full := strings.Join(most, " ")
	ab := impl.Book{Words: "ab abc b", At: "a", Count: 5}
	for _, c := range []struct {
		book impl.Book
		deed impl.Deed
		want impl.Book
	}{
		{impl.Book{}, impl.Deed{Kind: impl.DeedAdd, Word: "a"}, impl.Book{Words: "a", Count: 1}},
		{ab, impl.Deed{Kind: impl.DeedAdd, Word: "a"}, impl.Book{Words: "a ab abc b", At: "a", Count: 6}},
		{ab, impl.Deed{Kind: impl.DeedAdd, Word: "z"}, impl.Book{Words: "ab abc b z", At: "a", Count: 6}},
		{ab, impl.Deed{Kind: impl.DeedAdd, Word: fullRow("b")}, impl.Book{Words: "ab abc b " + fullRow("b"), At: "a", Count: 6}},
		{ab, impl.Deed{Kind: impl.DeedDrop, Word: "ab"}, impl.Book{Words: "abc b", At: "a", Count: 6}},
		{ab, impl.Deed{Kind: impl.DeedDrop, Word: "b"}, impl.Book{Words: "ab abc", At: "a", Count: 6}},
		{ab, impl.Deed{Kind: impl.DeedDown, Word: "b"}, impl.Book{Words: "ab abc b", At: "ab", Count: 6}},
		{ab, impl.Deed{Kind: impl.DeedUp}, impl.Book{Words: "ab abc b", Count: 6}},
		{ab, impl.Deed{Kind: impl.DeedTop}, impl.Book{Words: "ab abc b", Count: 6}},
		// The At may be that of a word that is dropped, if another one begins with it, too.
		{impl.Book{Words: "a ab", At: "a"}, impl.Deed{Kind: impl.DeedDrop, Word: "a"}, impl.Book{Words: "ab", At: "a", Count: 1}},
		{impl.Book{Words: "ab ac", At: "a"}, impl.Deed{Kind: impl.DeedDrop, Word: "ab"}, impl.Book{Words: "ac", At: "a", Count: 1}},
		{impl.Book{Words: "a"}, impl.Deed{Kind: impl.DeedDrop, Word: "a"}, impl.Book{Count: 1}},
		{impl.Book{Words: "abc", At: "abc"}, impl.Deed{Kind: impl.DeedUp}, impl.Book{Words: "abc", At: "ab", Count: 1}},
		{impl.Book{Words: "abc", At: "abc"}, impl.Deed{Kind: impl.DeedTop}, impl.Book{Words: "abc", Count: 1}},
		{impl.Book{Words: strings.Join(most[1:], " ")}, impl.Deed{Kind: impl.DeedAdd, Word: most[0]}, impl.Book{Words: full, Count: 1}},
		{impl.Book{Words: full}, impl.Deed{Kind: impl.DeedDrop, Word: most[0]}, impl.Book{Words: strings.Join(most[1:], " "), Count: 1}},
		{impl.Book{Words: full}, impl.Deed{Kind: impl.DeedDown, Word: "z"}, impl.Book{Words: full, At: "z", Count: 1}},
		{impl.Book{Words: "a", Count: impl.MaxDeeds - 1}, impl.Deed{Kind: impl.DeedDown, Word: "a"}, impl.Book{Words: "a", At: "a", Count: impl.MaxDeeds}},
	} {
		if got, ok := impl.DoDeed(c.book, c.deed); !ok || got != c.want {
			t.Errorf("DoDeed(%+v, %+v) = %+v, %v", c.book, c.deed, got, ok)
		}
	}
}

func TestPromise12DeedsThatAreNotPossible(t *testing.T) {
	full := impl.Book{Words: strings.Join(manyWords(impl.MaxWords), " ")}
	ab := impl.Book{Words: "ab abc b", At: "a", Count: 5}
	top := impl.Book{Words: "ab abc b", Count: 5}
	last := impl.Book{Words: "ab abc b", At: "a", Count: impl.MaxDeeds}
	for why, c := range map[string]struct {
		book impl.Book
		deed impl.Deed
	}{
		"a word that is there":            {ab, impl.Deed{Kind: impl.DeedAdd, Word: "ab"}},
		"the empty word":                  {ab, impl.Deed{Kind: impl.DeedAdd}},
		"the empty word for none":         {impl.Book{}, impl.Deed{Kind: impl.DeedAdd}},
		"two words":                       {ab, impl.Deed{Kind: impl.DeedAdd, Word: "c d"}},
		"a space":                         {ab, impl.Deed{Kind: impl.DeedAdd, Word: " "}},
		"a word and a space":              {ab, impl.Deed{Kind: impl.DeedAdd, Word: "c "}},
		"a word too long":                 {ab, impl.Deed{Kind: impl.DeedAdd, Word: fullRow("c") + "c"}},
		"a great letter":                  {ab, impl.Deed{Kind: impl.DeedAdd, Word: "C"}},
		"a word too many":                 {full, impl.Deed{Kind: impl.DeedAdd, Word: "a"}},
		"a word that is not there":        {ab, impl.Deed{Kind: impl.DeedDrop, Word: "a"}},
		"the empty word dropped":          {ab, impl.Deed{Kind: impl.DeedDrop}},
		"the empty word of none dropped":  {impl.Book{}, impl.Deed{Kind: impl.DeedDrop}},
		"two words dropped":               {ab, impl.Deed{Kind: impl.DeedDrop, Word: "ab abc"}},
		"the word of the At":              {impl.Book{Words: "ab b", At: "ab"}, impl.Deed{Kind: impl.DeedDrop, Word: "ab"}},
		"the only word below the At":      {impl.Book{Words: "abc b", At: "a"}, impl.Deed{Kind: impl.DeedDrop, Word: "abc"}},
		"the only word of all":            {impl.Book{Words: "a", At: "a"}, impl.Deed{Kind: impl.DeedDrop, Word: "a"}},
		"a step where nothing is":         {ab, impl.Deed{Kind: impl.DeedDown, Word: "a"}},
		"a step without words":            {impl.Book{}, impl.Deed{Kind: impl.DeedDown, Word: "a"}},
		"a step below a leaf":             {impl.Book{Words: "ab", At: "ab"}, impl.Deed{Kind: impl.DeedDown, Word: "a"}},
		"a step without a letter":         {ab, impl.Deed{Kind: impl.DeedDown}},
		"a step of two letters":           {ab, impl.Deed{Kind: impl.DeedDown, Word: "bc"}},
		"a step of a space":               {ab, impl.Deed{Kind: impl.DeedDown, Word: " "}},
		"a step of a great letter":        {ab, impl.Deed{Kind: impl.DeedDown, Word: "B"}},
		"up at the top":                   {top, impl.Deed{Kind: impl.DeedUp}},
		"up with a Word":                  {ab, impl.Deed{Kind: impl.DeedUp, Word: "a"}},
		"the top at the top":              {top, impl.Deed{Kind: impl.DeedTop}},
		"the top with a Word":             {ab, impl.Deed{Kind: impl.DeedTop, Word: "a"}},
		"the top with a space":            {ab, impl.Deed{Kind: impl.DeedTop, Word: " "}},
		"a Kind of 0":                     {ab, impl.Deed{}},
		"a Kind of 6":                     {ab, impl.Deed{Kind: 6}},
		"a Kind of 0 with a Word":         {ab, impl.Deed{Word: "c"}},
		"a Kind below 0":                  {ab, impl.Deed{Kind: -1, Word: "c"}},
		"the greatest Kind":               {ab, impl.Deed{Kind: math.MaxInt, Word: "c"}},
		"the greatest Count, adding":      {last, impl.Deed{Kind: impl.DeedAdd, Word: "c"}},
		"the greatest Count, dropping":    {last, impl.Deed{Kind: impl.DeedDrop, Word: "b"}},
		"the greatest Count, going down":  {last, impl.Deed{Kind: impl.DeedDown, Word: "b"}},
		"the greatest Count, going up":    {last, impl.Deed{Kind: impl.DeedUp}},
		"the greatest Count, for the top": {last, impl.Deed{Kind: impl.DeedTop}},
	} {
		if got, ok := impl.DoDeed(c.book, c.deed); ok || got != (impl.Book{}) {
			t.Errorf("%s: DoDeed(%+v, %+v) = %+v, %v", why, c.book, c.deed, got, ok)
		}
		end, done, ok := impl.DoDeeds(c.book, []impl.Deed{c.deed, {Kind: impl.DeedAdd, Word: "zz"}})
		if !ok || end != c.book || done != 0 {
			t.Errorf("%s: DoDeeds(%+v, %+v) = %+v, %d, %v", why, c.book, c.deed, end, done, ok)
		}
	}
}

func TestPromise12DeedsOfBooks(t *testing.T) {
	possible := map[int]int{}
	deeds := someDeeds()
	for _, p := range append(smallBooks(), edgeBooks()...) {
		b := mustBook(t, p)
		for _, d := range deeds {
			want, isPossible := p.behind(d)
			got, ok := impl.DoDeed(b, d)
			if !isPossible && !ok && got == (impl.Book{}) {
				continue
			}
			possible[d.Kind]++
			if !isPossible || !ok || got != want.book() || !impl.IsBook(got) {
				t.Fatalf("DoDeed(%+v, %+v) = %+v, %v; want %+v, %v", b, d, got, ok, want, isPossible)
			}
		}
	}
	for kind := impl.DeedAdd; kind <= impl.DeedTop; kind++ {
		if possible[kind] < 50 {
			t.Errorf("only %d Deeds of kind %d are possible", possible[kind], kind)
		}
	}
}

func TestPromise12InvalidBooksHaveNoDeeds(t *testing.T) {
	deeds := someDeeds()
	for name, b := range badBooks() {
		for _, d := range deeds {
			if got, ok := impl.DoDeed(b, d); ok || got != (impl.Book{}) {
				t.Fatalf("DoDeed of a Book with %s, %+v: %+v, %v", name, d, got, ok)
			}
		}
		for _, list := range [][]impl.Deed{nil, {}, {{}}, deeds, deeds[:1]} {
			if got, done, ok := impl.DoDeeds(b, list); ok || done != 0 || got != (impl.Book{}) {
				t.Fatalf("DoDeeds of a Book with %s: %+v, %d, %v", name, got, done, ok)
			}
		}
	}
}

// TestPromise12AddedWordsCanBeDropped checks the two pairs of Deeds that leave the Book as it was
// but for its Count.
func TestPromise12AddedWordsCanBeDropped(t *testing.T) {
	pairs := 0
	for _, p := range append(smallBooks(), edgeBooks()...) {
		b := mustBook(t, p)
		for _, w := range append(textsOver("abz", 2), "abbb", "mm", fullRow("b"), fullRow("ab")) {
			for _, two := range [][2]impl.Deed{
				{{Kind: impl.DeedAdd, Word: w}, {Kind: impl.DeedDrop, Word: w}}, {{Kind: impl.DeedDown, Word: w}, {Kind: impl.DeedUp}},
			} {
				after, ok := impl.DoDeed(b, two[0])
				if !ok {
					continue
				}
				pairs++
				want := b
				want.Count += 2
				back, ok := impl.DoDeed(after, two[1])
				if b.Count == impl.MaxDeeds-1 {
					// Then the first one was the last one that could be made.
					want = impl.Book{}
				}
				if ok != (want.Count > 0) || back != want {
					t.Fatalf("%+v, %+v: %+v, and then %+v, %v", b, two[0], after, back, ok)
				}
			}
		}
	}
	if pairs < 1000 {
		t.Errorf("only %d pairs of Deeds were made", pairs)
	}
}

func TestPromise12DoDeeds(t *testing.T) {
	b := impl.Book{Words: "a ab b"}
	down, up := impl.Deed{Kind: impl.DeedDown, Word: "a"}, impl.Deed{Kind: impl.DeedUp}
	many := slices.Repeat([]impl.Deed{down, up}, impl.MaxDeeds/2)
	for _, c := range []struct {
		book impl.Book
		list []impl.Deed
		want impl.Book
		done int
	}{
		{b, nil, b, 0}, {b, []impl.Deed{}, b, 0}, {impl.Book{}, nil, impl.Book{}, 0}, {b, []impl.Deed{{}}, b, 0}, {b, []impl.Deed{up, down}, b, 0},
		{b, []impl.Deed{down}, impl.Book{Words: "a ab b", At: "a", Count: 1}, 1},
		{b, []impl.Deed{down, down, up}, impl.Book{Words: "a ab b", At: "a", Count: 1}, 1},
		{b, []impl.Deed{down, up, up}, impl.Book{Words: "a ab b", Count: 2}, 2},
		{b, []impl.Deed{down, up}, impl.Book{Words: "a ab b", Count: 2}, 2},
		{b, []impl.Deed{down, {Kind: impl.DeedDrop, Word: "b"}, {Kind: impl.DeedDown, Word: "b"}, {Kind: impl.DeedAdd, Word: "ab"}}, impl.Book{Words: "a ab", At: "ab", Count: 3}, 3},
		{b, many, impl.Book{Words: "a ab b", Count: impl.MaxDeeds}, impl.MaxDeeds},
		{b, many[1:], b, 0}, {b, many[:impl.MaxDeeds-1], impl.Book{Words: "a ab b", At: "a", Count: impl.MaxDeeds - 1}, impl.MaxDeeds - 1},
		{b, append(slices.Clone(many), down), impl.Book{Words: "a ab b", Count: impl.MaxDeeds}, impl.MaxDeeds},
		{impl.Book{Words: "a", Count: impl.MaxDeeds - 3}, many, impl.Book{Words: "a", At: "a", Count: impl.MaxDeeds}, 3},
		{impl.Book{Words: "a", Count: impl.MaxDeeds}, many, impl.Book{Words: "a", Count: impl.MaxDeeds}, 0},
		{b, slices.Repeat([]impl.Deed{down, up}, 100000), impl.Book{Words: "a ab b", Count: impl.MaxDeeds}, impl.MaxDeeds},
		{b, make([]impl.Deed, 1000000), b, 0},
	} {
		if end, done, ok := impl.DoDeeds(c.book, c.list); !ok || end != c.want || done != c.done {
			t.Errorf("DoDeeds(%+v, %d Deeds) = %+v, %d, %v", c.book, len(c.list), end, done, ok)
		}
	}
}

// TestPromise12DeedsOneBehindTheOther makes the Deeds of mixed lists at once and one by one.
func TestPromise12DeedsOneBehindTheOther(t *testing.T) {
	m := mixed(3)
	deeds := []impl.Deed{
		{Kind: impl.DeedAdd, Word: "a"}, {Kind: impl.DeedAdd, Word: "ab"}, {Kind: impl.DeedAdd, Word: "b"}, {Kind: impl.DeedAdd, Word: "ba"}, {Kind: impl.DeedDrop, Word: "a"},
		{Kind: impl.DeedDrop, Word: "ab"}, {Kind: impl.DeedDown, Word: "a"}, {Kind: impl.DeedDown, Word: "b"}, {Kind: impl.DeedDown, Word: "b"}, {Kind: impl.DeedUp}, {Kind: impl.DeedTop},
	}
	sizes := map[int]int{}
	for range 3000 {
		p := plainBook{words: []string{"ab", "abb", "ba"}, count: m.below(5)}
		b := mustBook(t, p)
		list := []impl.Deed{}
		for range m.below(20) {
			list = append(list, deeds[m.below(len(deeds))])
		}
		want := 0
		for _, d := range list {
			next, isPossible := p.behind(d)
			if !isPossible {
				break
			}
			p = next
			want++
		}
		sizes[want]++
		if end, done, ok := impl.DoDeeds(b, list); !ok || end != p.book() || done != want {
			t.Fatalf("DoDeeds(%+v, %+v) = %+v, %d, %v; want %+v, %d", b, list, end, done, ok, p, want)
		}
	}
	if len(sizes) < 10 {
		t.Errorf("the lists end at %v", sizes)
	}
}

// TestPromise13DictionaryLeavesItsLists checks the two functions of lists, with room behind these.
func TestPromise13DictionaryLeavesItsLists(t *testing.T) {
	words := []string{"b", "ab", "a", "b", "kept", "behind"}
	for _, n := range []int{0, 1, 4} {
		impl.NewBook(words[:n])
	}
	if !slices.Equal(words, []string{"b", "ab", "a", "b", "kept", "behind"}) {
		t.Errorf("NewBook made its list %q", words)
	}
	list := []impl.Deed{{Kind: impl.DeedAdd, Word: "c"}, {Kind: impl.DeedDown, Word: "c"}, {Kind: impl.DeedUp}, {Kind: 9, Word: "kept"}, {Kind: 8, Word: "behind"}}
	before := slices.Clone(list)
	for n := range list {
		for _, b := range []impl.Book{{}, {Words: "a b", At: "a"}, {Words: "b a"}} {
			impl.DoDeeds(b, list[:n])
		}
	}
	if !slices.Equal(list, before) {
		t.Errorf("DoDeeds made its list %+v", list)
	}
}

func TestPromise13DictionaryResultsShareNothing(t *testing.T) {
	b := impl.Book{Words: "ab abc b", At: "a"}
	c := impl.Console{Book: b, Log: plainLog(someRecords(3), 1)}
	for range 2 {
		trie, _ := impl.TrieOfBook(b)
		records, _ := impl.LogRecords(c.Log)
		replies, _ := impl.RunScript(c, "count\nat\nwords")
		if !sameTrie(trie, plainTrie([]string{"ab", "abc", "b"})) || !slices.Equal(records, someRecords(3)) || !slices.Equal(replies, []string{"3", "a", "ab abc b"}) {
			t.Fatalf("a changed result changes another one: %v, %q, %q", trie, records, replies)
		}
		spoil(trie.Nodes, nodeWith(9, 9, true))
		spoil(records, impl.LogRecord{Command: "spoilt"})
		spoil(replies, "spoilt")
	}
}
