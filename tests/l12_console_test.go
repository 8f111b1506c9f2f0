package tests

import (
	"fmt"
	"maps"
	"math/big"
	"regexp"
	"slices"
	"strconv"
	"strings"
	"testing"

	"loop.example/g01243/impl"
)

// commandForms has for each command of the document the form of its lines.
var commandForms = formsOfCommands()

func formsOfCommands() map[string]*regexp.Regexp {
	forms := map[string]*regexp.Regexp{"word": regexp.MustCompile("^word (0|-?[1-9][0-9]{0,5})$")}
	for _, name := range strings.Fields("up top words at count depth under kids shown complete free states saved mean") {
		forms[name] = regexp.MustCompile("^" + name + "$")
	}
	for _, name := range strings.Fields("add drop down has rank unique match split splits chance") {
		forms[name] = regexp.MustCompile("^" + name + " [a-z]+$")
	}
	return forms
}

var commandDeeds = map[string]int{"add": impl.DeedAdd, "drop": impl.DeedDrop, "down": impl.DeedDown, "up": impl.DeedUp, "top": impl.DeedTop}

// execute returns what is behind a command, and the reply.
func (p plainBook) execute(line string) (plainBook, string) {
	name, argument, _ := strings.Cut(line, " ")
	form, isKnown := commandForms[name]
	if !isKnown || !form.MatchString(line) {
		return p, "?"
	}
	if kind, isDeed := commandDeeds[name]; isDeed {
		next, isPossible := p.behind(impl.Deed{Kind: kind, Word: argument})
		switch {
		case !isPossible:
			return p, "?"
		case kind == impl.DeedAdd || kind == impl.DeedDrop:
			return next, strconv.Itoa(len(next.words))
		default:
			return next, orDash(next.at)
		}
	}
	reply := p.told(name)
	if argument != "" {
		reply = p.toldOf(name, argument)
	}
	if reply == "" {
		reply = "?"
	}
	return p, reply
}

func orDash(text string) string {
	if text == "" {
		return "-"
	}
	return text
}

func yesOrNo(isSo bool) string {
	if isSo {
		return "yes"
	}
	return "no"
}

func orNone(list []string) string {
	if len(list) == 0 {
		return "none"
	}
	return strings.Join(list, " ")
}

func overBar(f [2]int) string {
	return fmt.Sprintf("%d/%d", f[0], f[1])
}

// told returns the reply to a command without an argument, or an empty text.
func (p plainBook) told(name string) string {
	under, most := plainUnder(p.words, p.at)
	states := map[int]bool{}
	for _, state := range plainStates(p.words) {
		states[state] = true
	}
	switch name {
	case "words":
		return orNone(p.words)
	case "at":
		return orDash(p.at)
	case "count":
		return strconv.Itoa(len(p.words))
	case "depth":
		return strconv.Itoa(len(slices.MaxFunc(append([]string{""}, p.words...), func(a, b string) int { return len(a) - len(b) })))
	case "under":
		return strconv.Itoa(len(under))
	case "kids":
		return strconv.Itoa(len(kidTexts(p.words, p.at)))
	case "shown":
		return orNone(under)
	case "complete":
		if len(under) == 0 {
			return ""
		}
		return orDash(most)
	case "free":
		return yesOrNo(!slices.ContainsFunc(p.words, func(w string) bool { return countBeginning(p.words, w) > 1 }))
	case "states":
		return strconv.Itoa(len(states))
	case "saved":
		return strconv.Itoa(len(plainPrefixes(p.words)) - len(states))
	case "mean":
		if len(p.words) == 0 {
			return ""
		}
		return overBar(outOf(len(strings.Join(p.words, "")), len(p.words)))
	}
	return ""
}

// toldOf returns the reply to a command with an argument, or an empty text.
func (p plainBook) toldOf(name, argument string) string {
	switch name {
	case "word":
		if k, _ := strconv.Atoi(argument); k >= 0 && k < len(p.words) {
			return p.words[k]
		}
		return ""
	case "match", "split", "splits":
		return p.toldOfPassage(name, argument)
	}
	has := slices.Contains(p.words, argument)
	switch {
	case len(argument) > impl.MaxLetters:
		return ""
	case name == "has":
		return yesOrNo(has)
	case name == "rank":
		return strconv.Itoa(len(chosen(p.words, func(w string) bool { return w < argument })))
	case name == "unique" && has:
		return orDash(plainUnique(p.words, argument))
	case name == "chance" && len(p.words) > 0:
		chances := map[string]*big.Rat{argument: new(big.Rat)}
		plainDescents(p.words, "", big.NewRat(1, 1), chances)
		return overBar(plainFraction(chances[argument]))
	}
	return ""
}

func (p plainBook) toldOfPassage(name, passage string) string {
	counts, best, _ := forwardSplits(p.words, passage)
	standing := chosen(p.words, func(w string) bool { return strings.HasPrefix(passage, w) })
	switch {
	case len(passage) > impl.MaxPassage:
		return ""
	case name == "splits":
		return strconv.Itoa(counts[len(passage)])
	case name == "split" && counts[len(passage)] > 0:
		return orNone(best[len(passage)])
	case name == "match" && len(standing) > 0:
		return standing[len(standing)-1]
	}
	return ""
}

// someCommandLines returns lines of all commands, with arguments of all kinds, and others.
func someCommandLines(near []string) []string {
	lines := []string{"", " ", "x", "-", "?", "word0", "wordsa", "Words", "WORDS", "wor", "words words", "\t", "add\ta", "no", "yes", "none", "DeedAdd a", "1", "0 a", "a", "~", "aa ab"}
	arguments := append(near, "", " ", "a ", " a", "a b", "a  b", "A", "a1", "1a", "0", "1", "2", "39", "40", "-1", "-0", "00", "01", "+1", "999999", "1000000", "-999999", "1 ", " 1", "1 2", "1.0", "0x1", "?",
		"a*", "-", "~")
	for _, name := range slices.Sorted(maps.Keys(commandForms)) {
		lines = append(lines, name, " "+name, strings.ToUpper(name), name+name)
		for _, argument := range arguments {
			lines = append(lines, name+" "+argument)
		}
	}
	return lines
}

// checkCommand checks a line that is the Command of a valid record, and returns the Console behind
// it.
func checkCommand(t *testing.T, c impl.Console, p plainBook, line string) (impl.Console, plainBook) {
	t.Helper()
	next, reply := impl.ExecuteCommand(c, line)
	after, want := p.execute(line)
	if reply != want {
		t.Fatalf("%q in %+v is %q; want %q", line, p, reply, want)
	}
	log := c.Log
	log.Pending += plainEncoding(log.Count, impl.LogRecord{Command: line, Reply: reply})
	log.Count++
	if next != (impl.Console{Book: after.book(), Log: log}) {
		t.Fatalf("%q in %+v makes %+v; want %+v", line, p, next, after)
	}
	return next, after
}

func mustConsole(t *testing.T, p plainBook) impl.Console {
	t.Helper()
	c, ok := impl.NewConsole(p.book())
	if !ok || c != (impl.Console{Book: p.book()}) || !impl.IsValidConsole(c) {
		t.Fatalf("NewConsole(%+v) = %+v, %v", p, c, ok)
	}
	return c
}

func TestPromise12Consoles(t *testing.T) {
	for _, p := range append(smallBooks(), edgeBooks()...) {
		c := mustConsole(t, p)
		for _, l := range []impl.Log{plainLog(someRecords(3), 1), plainLog(someRecords(impl.MaxRecords), 40)} {
			c.Log = l
			if !impl.IsValidConsole(c) {
				t.Fatalf("%+v and a log are no valid Console", p)
			}
		}
	}
	for name, b := range badBooks() {
		if c, ok := impl.NewConsole(b); ok || c != (impl.Console{}) {
			t.Errorf("NewConsole for a Book with %s = %+v, %v", name, c, ok)
		}
		c := impl.Console{Book: b}
		if impl.IsValidConsole(c) {
			t.Errorf("IsValidConsole is true for a Book with %s", name)
		}
		for _, line := range []string{"count", ""} {
			if next, reply := impl.ExecuteCommand(c, line); next != c || reply != "no" {
				t.Errorf("ExecuteCommand for a Book with %s: %q", name, reply)
			}
		}
		if got, ok := impl.RunScript(c, "count"); ok || len(got) != 0 {
			t.Errorf("RunScript for a Book with %s: %q, %v", name, got, ok)
		}
		for _, l := range []impl.Log{{}, plainLog(someRecords(3), 1)} {
			if got, ok := impl.ReplayLog(b, l); ok || got != 0 {
				t.Errorf("ReplayLog for a Book with %s: %d, %v", name, got, ok)
			}
		}
	}
}

func TestPromise12Commands(t *testing.T) {
	for _, c := range []struct{ book, at, lines string }{
		{"ab abc b", "a", "add a=4|add z=4|add abcdefghijkl=4|add ab=?|add abcdefghijklm=?|drop b=2|drop ab=2|drop a=?|down b=ab|down a=?|down bc=?|up=-|top=-"},
		{"ab abc b", "a", "add=?|add =?|add a b=?|add  a=?|add a =?|add A=?|add 1=?|add -=?|drop=?|drop b b=?|drop  b=?|down=?|down b b=?|down  b=?|down 1=?|up a=?|up =?|up 1=?| up=?|top a=?|top =?|top top=?"},
		{"ab abc b", "a", "words=ab abc b|at=a|count=3|depth=3|under=2|kids=1|shown=ab abc|complete=ab|free=no|states=4|saved=1|mean=2/1"},
		{"ab abc b", "a", "words a=?|at a=?|count 1=?|depth =?|under a=?|kids a=?|shown a=?|complete a=?|free  =?|states 1=?|saved a=?|mean a=?"},
		{"ab abc b", "a", "has ab=yes|has a=no|has z=no|has=?|has =?|has ab b=?|has  ab=?|has 1=?|has abcdefghijklm=?|rank b=2|rank a=0|rank z=3|rank abb=1|rank=?|rank a b=?|rank  a=?|rank abcdefghijklm=?"},
		{"ab abc b", "a", "word 0=ab|word 1=abc|word 2=b|word 3=?|word -1=?|word=?|word =?|word a=?|word 00=?|word -0=?|word +1=?|word 1 2=?|word  1=?|word 999999=?|word -999999=?|word 1000000=?|word 99999999999999999999=?"},
		{"ab abc b", "a", "unique ab=ab|unique abc=abc|unique b=b|unique a=?|unique z=?|unique=?|unique b b=?|match abcb=abc|match b=b|match c=?|match=?|match ab c=?|match a=?"},
		{"ab abc b", "a", "split abcbab=abc b ab|split b=b|split abca=?|split=?|split b b=?|split 1=?|splits abcbab=1|splits abca=0|splits=?|splits  b=?|splits b b=?"},
		{"ab abc b", "a", "chance b=1/2|chance ab=1/4|chance abc=1/4|chance a=0/1|chance z=0/1|chance=?|chance a b=?|chance 1=?|chance abcdefghijklm=?"},
		{"ab abc b", "a", "x=?|x a=?| =?|  =?|Words=?|COUNT=?|wordss=?|word0=?|adda=?|add,a=?|count;=?|?=?|no=?|DeedUp=?|wor=?"},
		{"ab abc b", "", "up=?|top=?|at=-|under=3|kids=2|shown=ab abc b|complete=-|down a=a|down b=b|down c=?|drop b=2"},
		{"ab abc b", "abc", "up=ab|top=-|at=abc|under=1|kids=0|shown=abc|complete=abc|down a=?|drop abc=?|drop ab=2|drop b=2"},
		{"", "", "words=none|at=-|count=0|depth=0|under=0|kids=0|shown=none|complete=?|free=yes|states=1|saved=0|mean=?"},
		{"", "", "has a=no|rank a=0|word 0=?|unique a=?|match a=?|split a=?|splits a=0|chance a=?|add a=1|drop a=?|down a=?|up=?|top=?"},
		{"abc", "a", "words=abc|at=a|count=1|depth=3|under=1|kids=1|shown=abc|complete=abc|free=yes|states=4|saved=0|mean=3/1|unique abc=-|chance abc=1/1|drop abc=?|split abcabc=abc abc|splits abcabc=1"},
		{"a b", "a", "drop a=?|drop b=1|mean=1/1|states=2|saved=1|free=yes|unique a=a|split abba=a b b a|match ba=b|splits ab=1"},
		{"a aa", "", "splits aaaa=5|split aaaaa=aa aa a|match aaa=aa|mean=3/2|chance a=1/2|free=no|saved=0|states=3|unique a=a|unique aa=aa"},
	} {
		p := plainBook{words: strings.Fields(c.book), at: c.at, count: 2}
		for _, line := range strings.Split(c.lines, "|") {
			line, want, _ := strings.Cut(line, "=")
			if _, reply := impl.ExecuteCommand(mustConsole(t, p), line); reply != want {
				t.Errorf("%q in %+v is %q; want %q", line, p, reply, want)
			}
			checkCommand(t, mustConsole(t, p), p, line)
		}
	}
}

func TestPromise12LongCommandsAndReplies(t *testing.T) {
	row := strings.Repeat("a", 200)
	doubles := plainBook{words: []string{"a", "aa"}}
	rows := plainBook{words: chainWords(13)[1:]}
	most := plainBook{words: manyWords(impl.MaxWords)}
	for _, c := range []struct {
		p          plainBook
		line, want string
	}{
		{doubles, "splits " + row[:60], "2504730781961"}, {doubles, "splits " + row[:61], "?"}, {doubles, "split " + row[:60], strings.TrimSpace(strings.Repeat("aa ", 30))},
		{plainBook{words: []string{"a"}}, "split " + row[:60], strings.TrimSpace(strings.Repeat("a ", 60))}, {doubles, "split " + row[:61], "?"}, {doubles, "match " + row[:60], "aa"},
		{doubles, "match " + row[:61], "?"}, {doubles, "has " + row[:12], "no"}, {doubles, "has " + row[:156], "?"}, {doubles, "split " + row[:154], "?"}, {doubles, row[:160], "?"},
		{rows, "splits " + row[:60], "573018393757698560"}, {rows, "mean", "13/2"}, {rows, "chance " + row[:12], "1/2048"}, {rows, "saved", "0"}, {rows, "states", "13"},
		{most, "words", strings.Join(most.words, " ")}, {most, "shown", strings.Join(most.words, " ")}, {most, "count", "40"}, {most, "add a", "?"}, {most, "drop " + most.words[39], "39"}, {most, "mean", "12/1"},
	} {
		if _, reply := impl.ExecuteCommand(mustConsole(t, c.p), c.line); reply != c.want {
			t.Errorf("%q in %.60q is %q; want %q", c.line, c.p.words, reply, c.want)
		}
		checkCommand(t, mustConsole(t, c.p), c.p, c.line)
	}
}

func TestPromise12CommandsInBooks(t *testing.T) {
	lines := someCommandLines(append(textsOver("ab", 3), "z", fullRow("a"), fullRow("a")+"a", fullRow("abb"), strings.Repeat("ab", 30), strings.Repeat("ab", 31)))
	replies := map[string]map[string]bool{}
	for i, p := range smallBooks() {
		c := mustConsole(t, p)
		for j, line := range lines {
			if line == "" || strings.Contains(line, "\t") || (i+j)%9 != 0 {
				continue
			}
			checkCommand(t, c, p, line)
			name, _, _ := strings.Cut(line, " ")
			if replies[name] == nil {
				replies[name] = map[string]bool{}
			}
			_, reply := p.execute(line)
			replies[name][reply] = true
		}
	}
	for name := range commandForms {
		if len(replies[name]) < 2 {
			t.Errorf("the replies to %q are %v", name, replies[name])
		}
	}
}

func TestPromise12CommandsInEdgeBooks(t *testing.T) {
	for i, p := range edgeBooks() {
		c := mustConsole(t, p)
		texts := fewTexts(p.words)
		m := mixed(i)
		for range 4 {
			texts = append(texts, mixedText(&m, 3, 60))
		}
		for j, line := range someCommandLines(slices.DeleteFunc(texts, func(w string) bool { return w == "" })) {
			if line == "" || strings.Contains(line, "\t") || len(line) > impl.MaxCommand || (i+j)%11 != 0 {
				continue
			}
			checkCommand(t, c, p, line)
		}
	}
}

// badCommandLines are lines that are no Command of a valid record.
var badCommandLines = []string{
	"", "#", "@", "count#", "count@", "#count", "count\n", "count\r", "\tcount", "words\x00", "\x7f", "count\x7f", "\x1f", "\x80", "\xff", "add \u00e9", "add a\nadd b",
	strings.Repeat("a", impl.MaxCommand+1), "split " + strings.Repeat("a", impl.MaxCommand-5), strings.Repeat("a", 100000), strings.Repeat(" ", impl.MaxCommand+1), "\n",
}

func TestPromise12ChecksOfCommands(t *testing.T) {
	p := plainBook{words: []string{"ab", "b"}, at: "a", count: 7}
	for _, n := range []int{0, 1, 5, impl.MaxRecords - 1, impl.MaxRecords} {
		c := mustConsole(t, p)
		c.Log = plainLog(someRecords(n), n/2)
		for _, line := range badCommandLines {
			// What is no Command is told ahead of that the log is full.
			if next, reply := impl.ExecuteCommand(c, line); next != c || reply != "bad" {
				t.Errorf("%.60q behind %d records: %q", line, n, reply)
			}
		}
		for _, line := range []string{"count", "up", "add a", "x", "add", " ", strings.Repeat("a", impl.MaxCommand)} {
			if n < impl.MaxRecords {
				checkCommand(t, c, p, line)
				continue
			}
			if next, reply := impl.ExecuteCommand(c, line); next != c || reply != "full" {
				t.Errorf("%.60q in a full Console: %q", line, reply)
			}
		}
		c.Book.Count = -1
		for _, line := range append(badCommandLines, "count", "add a", "x") {
			if next, reply := impl.ExecuteCommand(c, line); next != c || reply != "no" {
				t.Errorf("%.60q in a Console that is not valid: %q", line, reply)
			}
		}
	}
	for c := range 256 {
		line := "x" + string([]byte{byte(c)})
		_, reply := impl.ExecuteCommand(impl.Console{}, line)
		if isBad := c < 32 || c > 126 || c == '#' || c == '@'; isBad != (reply == "bad") {
			t.Errorf("%q is %q", line, reply)
		}
	}
}

func TestPromise12CountsOfConsoles(t *testing.T) {
	c := mustConsole(t, plainBook{words: []string{"a"}, count: impl.MaxDeeds - 2})
	want := []string{"?", "a", "a", "-", "?", "?", "?", "1", "no", "-"}
	for i, line := range []string{"up", "down a", "at", "top", "down a", "add b", "drop a", "count", "has b", "at"} {
		next, reply := impl.ExecuteCommand(c, line)
		if reply != want[i] || next.Log.Count != i+1 {
			t.Errorf("%d: %q is %q", i, line, reply)
		}
		c = next
	}
	if c.Book != (impl.Book{Words: "a", Count: impl.MaxDeeds}) {
		t.Errorf("the Book is %+v", c.Book)
	}
}

// mixedLines returns commands of a mixed session.
func mixedLines(m *mixed, n int) []string {
	pool := strings.Split("add a|add b|add ab|add ba|add bab|add abab|add c|drop a|drop ab|drop b|drop bab|down a|down b|down c|up|up|top|"+
		"words|at|count|has ab|rank b|word 0|word 2|depth|under|kids|shown|complete|unique ab|match abab|split abab|splits ababa|free|states|saved|mean|chance ab|x|add|down a b| up|word a", "|")
	lines := []string{}
	for range n {
		lines = append(lines, pool[m.below(len(pool))])
	}
	return lines
}

// TestPromise12ReplayingReproducesEveryReply replays mixed sessions, as they are, synced, and
// recovered from crashes.
func TestPromise12ReplayingReproducesEveryReply(t *testing.T) {
	m := mixed(20)
	books := append(edgeBooks(), plainBook{}, plainBook{words: []string{"a"}, count: impl.MaxDeeds - 3})
	for n := range 150 {
		p := books[n%len(books)]
		c := mustConsole(t, p)
		start, size := c.Book, m.below(impl.MaxRecords+1)
		for i, line := range mixedLines(&m, size) {
			c, p = checkCommand(t, c, p, line)
			if i%7 == 3 {
				c.Log, _ = impl.SyncLog(c.Log)
			}
		}
		if got, ok := impl.ReplayLog(start, c.Log); !ok || got != size {
			t.Fatalf("ReplayLog(%+v, %s) = %d, %v", start, shortOf(c.Log), got, ok)
		}
		synced, _ := impl.SyncLog(c.Log)
		if got, ok := impl.ReplayLog(start, synced); !ok || got != size {
			t.Fatalf("ReplayLog(%+v, %s) = %d, %v", start, shortOf(synced), got, ok)
		}
		survived, _ := impl.CrashLog(c.Log, m.below(len(c.Log.Pending)+1), n%2 == 0)
		back, _, _ := impl.RecoverLog(survived)
		if got, ok := impl.ReplayLog(start, back); !ok || got != back.Count {
			t.Fatalf("ReplayLog(%+v, %s) = %d, %v", start, shortOf(back), got, ok)
		}
	}
}

func TestPromise12ReplayLog(t *testing.T) {
	p := plainBook{words: []string{"ab", "abc", "b"}}
	m := mixed(5)
	for _, n := range []int{0, 1, 2, 3, 20, impl.MaxRecords} {
		c, q := mustConsole(t, p), p
		for _, line := range mixedLines(&m, n) {
			c, q = checkCommand(t, c, q, line)
		}
		records, _ := impl.LogRecords(c.Log)
		for i := range records {
			for _, reply := range []string{"", "x", records[i].Reply + " ", "no", strings.Repeat("a", impl.MaxReply)} {
				for _, also := range []int{i, n - 1} {
					others := slices.Clone(records)
					others[also].Reply = "other"
					others[i].Reply = reply
					if reply == records[i].Reply {
						continue
					}
					if got, ok := impl.ReplayLog(p.book(), plainLog(others, n/2)); !ok || got != i {
						t.Fatalf("ReplayLog with another reply at %d of %d = %d, %v", i, n, got, ok)
					}
				}
			}
		}
		if got, ok := impl.ReplayLog(p.book(), plainLog(records, n/3)); !ok || got != n {
			t.Fatalf("ReplayLog of %d records = %d, %v", n, got, ok)
		}
	}
	for _, c := range []struct {
		book    impl.Book
		records []impl.LogRecord
		want    int
	}{
		{impl.Book{}, nil, 0}, {impl.Book{}, []impl.LogRecord{{Command: "count", Reply: "0"}}, 1}, {impl.Book{Words: "a"}, []impl.LogRecord{{Command: "count", Reply: "0"}}, 0},
		{impl.Book{Words: "a", At: "a"}, []impl.LogRecord{{Command: "at", Reply: "a"}, {Command: "up", Reply: "-"}, {Command: "at", Reply: "a"}}, 2},
		{impl.Book{}, []impl.LogRecord{{Command: "nothing", Reply: "?"}, {Command: " ", Reply: "?"}, {Command: "nothing", Reply: ""}}, 2},
		{impl.Book{}, []impl.LogRecord{{Command: "add a", Reply: "1"}, {Command: "add a", Reply: "?"}, {Command: "add b", Reply: "2"}}, 3},
		// A wrong reply does not change what the next commands find.
		{impl.Book{}, []impl.LogRecord{{Command: "add a", Reply: "?"}, {Command: "count", Reply: "1"}}, 0},
	} {
		if got, ok := impl.ReplayLog(c.book, plainLog(c.records, 0)); !ok || got != c.want {
			t.Errorf("ReplayLog(%+v, %q) = %d, %v; want %d", c.book, c.records, got, ok, c.want)
		}
	}
}

func TestPromise12RunScript(t *testing.T) {
	p := plainBook{words: []string{"ab", "abc", "b"}}
	c := mustConsole(t, p)
	full := c
	full.Log = plainLog(someRecords(impl.MaxRecords), 3)
	nearlyFull := c
	nearlyFull.Log = plainLog(someRecords(impl.MaxRecords-2), 3)
	lines := func(line string, n int) string { return strings.TrimSuffix(strings.Repeat(line+"\n", n), "\n") }
	for _, s := range []struct {
		c    impl.Console
		text string
		want []string
	}{
		{c, "", []string{"bad"}}, {c, "\n", []string{"bad", "bad"}}, {c, "count", []string{"3"}}, {c, "count\n", []string{"3", "bad"}}, {c, "\ncount", []string{"bad", "3"}},
		{c, "add a\ncount\n\ndrop a\ncount", []string{"4", "4", "bad", "3", "3"}}, {c, "down a\nat\nup\nat", []string{"a", "a", "-", "-"}}, {c, "count\r\nat", []string{"bad", "-"}},
		{c, "x\nadd A\nadd", []string{"?", "?", "?"}}, {c, lines("count", 30), slices.Repeat([]string{"3"}, 30)}, {c, strings.Repeat("\n", 29), slices.Repeat([]string{"bad"}, 30)},
		{c, strings.Repeat("a", impl.MaxString), []string{"bad"}}, {c, lines(strings.Repeat("a", 132), 30) + strings.Repeat("a", 11), slices.Repeat([]string{"?"}, 30)},
		{full, "count", []string{"full"}}, {full, "count\n\nat", []string{"full", "bad", "full"}}, {nearlyFull, "count\n\nat\nadd a\n#", []string{"3", "bad", "-", "full", "bad"}},
	} {
		if got, ok := impl.RunScript(s.c, s.text); !ok || !slices.Equal(got, s.want) {
			t.Errorf("RunScript(%.60q) = %q, %v", s.text, got, ok)
		}
	}
	for _, text := range []string{lines("count", 31), strings.Repeat("\n", 30), strings.Repeat("a", impl.MaxString+1), strings.Repeat("\n", impl.MaxString), strings.Repeat("count\n", 100000)} {
		if got, ok := impl.RunScript(c, text); ok || len(got) != 0 {
			t.Errorf("RunScript(%.60q) = %q, %v", text, got, ok)
		}
	}
	m := mixed(9)
	for n := range 60 {
		script := mixedLines(&m, 1+n%impl.MaxScriptLines)
		want, q := []string{}, p
		for _, line := range script {
			reply := ""
			q, reply = q.execute(line)
			want = append(want, reply)
		}
		if got, ok := impl.RunScript(c, strings.Join(script, "\n")); !ok || !slices.Equal(got, want) {
			t.Fatalf("RunScript(%q) = %q, %v; want %q", script, got, ok, want)
		}
	}
}
