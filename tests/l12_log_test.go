package tests

import (
	"fmt"
	"math"
	"regexp"
	"slices"
	"strconv"
	"strings"
	"testing"

	"loop.example/g01243/impl"
)

// isPlainText reports whether a text has no more than size bytes, all in 32..126 and none of some.
func isPlainText(text string, size int, forbidden string) bool {
	for i := range len(text) {
		if text[i] < 32 || text[i] > 126 {
			return false
		}
	}
	return len(text) <= size && !strings.ContainsAny(text, forbidden)
}

func isPlainRecord(e impl.LogRecord) bool {
	return e.Command != "" && isPlainText(e.Command, 160, "#@") && isPlainText(e.Reply, 520, "#")
}

// sealedLine returns a line with its checksum, counted as the document says, whatever the line is.
func sealedLine(text string) string {
	sum := 7
	for i := range len(text) {
		sum = (41*sum + int(text[i]) + 1) % 999979
	}
	return text + "#" + strconv.Itoa(sum) + "\n"
}

// plainEncoding returns the encoding of a record, valid or not, with any sequence number.
func plainEncoding(k int, e impl.LogRecord) string {
	return sealedLine(fmt.Sprintf("%d %s@%s", k, e.Command, e.Reply))
}

var recordLine = regexp.MustCompile(`^[0-9]+ ([^@#\n]*)@([^#\n]*)#[0-9]+\n`)

// plainRecords reads the records with whose encodings a text begins.
func plainRecords(s string) (records []impl.LogRecord, size int) {
	for len(records) < impl.MaxRecords {
		found := recordLine.FindStringSubmatch(s[size:])
		if found == nil {
			break
		}
		e := impl.LogRecord{Command: found[1], Reply: found[2]}
		if !isPlainRecord(e) || plainEncoding(len(records), e) != found[0] {
			break
		}
		records = append(records, e)
		size += len(found[0])
	}
	return records, size
}

// plainLog returns the Log of some records, of which the first ones are durable. It keeps no
// limits.
func plainLog(records []impl.LogRecord, durable int) impl.Log {
	l := impl.Log{Count: len(records)}
	for k, e := range records {
		if k < durable {
			l.Durable += plainEncoding(k, e)
		} else {
			l.Pending += plainEncoding(k, e)
		}
	}
	return l
}

// shortOf shows the beginning of a Log.
func shortOf(l impl.Log) string {
	return fmt.Sprintf("%.100q and %.100q of %d", l.Durable, l.Pending, l.Count)
}

// longRecord is the longest record.
func longRecord() impl.LogRecord {
	return impl.LogRecord{Command: strings.Repeat("~", impl.MaxCommand), Reply: strings.Repeat("@", impl.MaxReply)}
}

// someRecords returns valid records, n of them.
func someRecords(n int) []impl.LogRecord {
	forms := []impl.LogRecord{
		{Command: "count", Reply: "?"}, {Command: "add ab", Reply: "3"}, {Command: " ", Reply: ""}, {Command: "~", Reply: "@"}, {Command: "words", Reply: "a ab b"},
		longRecord(), {Command: "0", Reply: "0 0@0"}, {Command: "x y  z", Reply: " "}, {Command: "!", Reply: "~~"},
	}
	records := []impl.LogRecord{}
	for k := range n {
		records = append(records, forms[k%len(forms)])
	}
	return records
}

// badRecords are records that are not valid.
func badRecords() []impl.LogRecord {
	bad := []impl.LogRecord{
		{}, {Reply: "a"}, {Command: "#", Reply: "a"}, {Command: "@", Reply: "a"}, {Command: "a", Reply: "#"}, {Command: "a@b"}, {Command: "a#b"}, {Command: "a", Reply: "a#7"},
		{Command: strings.Repeat("a", impl.MaxCommand+1)}, {Command: "a", Reply: strings.Repeat("a", impl.MaxReply+1)}, {Command: "a\n"}, {Command: "a", Reply: "b\n"},
		{Command: strings.Repeat("a", 100000)}, {Command: "a", Reply: strings.Repeat("a", 100000)}, {Command: "\u00e9"}, {Command: "a", Reply: "\u00e9"},
	}
	for _, c := range []byte{0, 1, 9, 10, 13, 31, 127, 128, 160, 255} {
		bad = append(bad, impl.LogRecord{Command: "a" + string([]byte{c})}, impl.LogRecord{Command: "a", Reply: string([]byte{c}) + "a"})
	}
	return bad
}

func TestPromise12IsValidRecord(t *testing.T) {
	for _, e := range someRecords(9) {
		if !impl.IsValidRecord(e) {
			t.Errorf("IsValidRecord(%+v) is false", e)
		}
	}
	for _, e := range badRecords() {
		if impl.IsValidRecord(e) {
			t.Errorf("IsValidRecord(%.40q, %.40q) is true", e.Command, e.Reply)
		}
	}
	for c := range 256 {
		for _, form := range []string{"\x00", "\x00a", "a\x00", "a\x00b"} {
			text := strings.Replace(form, "\x00", string([]byte{byte(c)}), 1)
			for _, e := range []impl.LogRecord{{Command: text}, {Command: text, Reply: "a"}, {Command: "a", Reply: text}} {
				if impl.IsValidRecord(e) != isPlainRecord(e) {
					t.Errorf("IsValidRecord(%+q) is %v", e, !isPlainRecord(e))
				}
			}
		}
	}
	for size := range 600 {
		text := strings.Repeat("a", size)
		if got := impl.IsValidRecord(impl.LogRecord{Command: text}); got != (size >= 1 && size <= 160) {
			t.Errorf("a Command of %d bytes: %v", size, got)
		}
		if got := impl.IsValidRecord(impl.LogRecord{Command: "a", Reply: text}); got != (size <= 520) {
			t.Errorf("a Reply of %d bytes: %v", size, got)
		}
	}
}

func TestPromise12EncodeRecord(t *testing.T) {
	for _, c := range []struct {
		k    int
		e    impl.LogRecord
		want string
	}{
		{0, impl.LogRecord{Command: "count", Reply: "?"}, "0 count@?#669019\n"},
		{7, impl.LogRecord{Command: "a", Reply: ""}, "7 a@#699942\n"},
		{39, impl.LogRecord{Command: "a b", Reply: "c@d"}, "39 a b@c@d#359334\n"},
	} {
		if got, ok := impl.EncodeRecord(c.k, c.e); !ok || got != c.want {
			t.Errorf("EncodeRecord(%d, %+v) = %q, %v", c.k, c.e, got, ok)
		}
	}
	numbers := []int{math.MinInt, math.MinInt + 1, -1 << 32, -40, -2, -1, 40, 41, 100, 256, 1 << 32, 1<<32 + 1, math.MaxInt - 1, math.MaxInt}
	for _, e := range someRecords(9) {
		for k := range impl.MaxRecords {
			if got, ok := impl.EncodeRecord(k, e); !ok || got != plainEncoding(k, e) {
				t.Errorf("EncodeRecord(%d, %+v) = %q, %v", k, e, got, ok)
			}
		}
		for _, k := range numbers {
			if got, ok := impl.EncodeRecord(k, e); ok || got != "" {
				t.Errorf("EncodeRecord(%d, %+v) = %q, %v", k, e, got, ok)
			}
		}
	}
	for _, e := range badRecords() {
		for _, k := range append(numbers, 0, 1, 39) {
			if got, ok := impl.EncodeRecord(k, e); ok || got != "" {
				t.Errorf("EncodeRecord(%d, %.40q, %.40q) = %.40q, %v", k, e.Command, e.Reply, got, ok)
			}
		}
	}
}

// checkLog checks the functions of a Log with just these records.
func checkLog(t *testing.T, l impl.Log, records []impl.LogRecord) {
	t.Helper()
	if !impl.IsValidLog(l) {
		t.Fatalf("IsValidLog is false for %d records: %s", len(records), shortOf(l))
	}
	if got, ok := impl.LogRecords(l); !ok || !slices.Equal(got, records) {
		t.Fatalf("LogRecords = %.200q, %v; want %.200q", got, ok, records)
	}
	synced, ok := impl.SyncLog(l)
	if !ok || synced != (impl.Log{Durable: l.Durable + l.Pending, Count: l.Count}) || !impl.IsValidLog(synced) {
		t.Fatalf("SyncLog(%s) = %s, %v", shortOf(l), shortOf(synced), ok)
	}
	back, read, ok := impl.RecoverLog(l.Durable + l.Pending)
	if !ok || back != synced || read != len(synced.Durable) {
		t.Fatalf("RecoverLog = %s, %d, %v", shortOf(back), read, ok)
	}
}

// checkNoLog checks that the functions of a Log fail that is not valid.
func checkNoLog(t *testing.T, why string, l impl.Log) {
	t.Helper()
	if impl.IsValidLog(l) {
		t.Fatalf("IsValidLog is true for a Log with %s: %s", why, shortOf(l))
	}
	if got, ok := impl.LogRecords(l); ok || len(got) != 0 {
		t.Errorf("LogRecords with %s: %.100q, %v", why, got, ok)
	}
	if got, ok := impl.SyncLog(l); ok || got != (impl.Log{}) {
		t.Errorf("SyncLog with %s: %s, %v", why, shortOf(got), ok)
	}
	for _, keep := range []int{0, 1, len(l.Pending)} {
		if got, ok := impl.CrashLog(l, keep, keep > 0); ok || got != "" {
			t.Errorf("CrashLog with %s: %.100q, %v", why, got, ok)
		}
	}
	for _, e := range []impl.LogRecord{{Command: "a"}, {}} {
		if got, code := impl.AppendRecord(l, e); code != impl.LogInvalid || got != l {
			t.Errorf("AppendRecord with %s: %s, %d", why, shortOf(got), code)
		}
	}
	if got, ok := impl.ReplayLog(impl.Book{}, l); ok || got != 0 {
		t.Errorf("ReplayLog with %s: %d, %v", why, got, ok)
	}
	c := impl.Console{Log: l}
	if impl.IsValidConsole(c) {
		t.Errorf("IsValidConsole is true for a Log with %s", why)
	}
	for _, line := range []string{"count", ""} {
		if next, reply := impl.ExecuteCommand(c, line); next != c || reply != "no" {
			t.Errorf("ExecuteCommand with %s: %q", why, reply)
		}
	}
	if got, ok := impl.RunScript(c, "count"); ok || len(got) != 0 {
		t.Errorf("RunScript with %s: %q, %v", why, got, ok)
	}
}

func TestPromise12Logs(t *testing.T) {
	checkLog(t, impl.Log{}, nil)
	for _, n := range []int{1, 2, 3, 9, 10, 11, impl.MaxRecords - 1, impl.MaxRecords} {
		for durable := range n + 1 {
			records := someRecords(n)
			checkLog(t, plainLog(records, durable), records)
		}
	}
	// The longest records make the longest log.
	longest := slices.Repeat([]impl.LogRecord{longRecord()}, impl.MaxRecords)
	for _, durable := range []int{0, 1, 20, 39, 40} {
		checkLog(t, plainLog(longest, durable), longest)
	}
}

// badLogs are Logs that are not valid, by what is wrong with them.
func badLogs() map[string]impl.Log {
	records := someRecords(3)
	line := func(texts ...string) string {
		all := ""
		for _, text := range texts {
			all += sealedLine(text)
		}
		return all
	}
	bad := map[string]impl.Log{
		"a record too many":         plainLog(someRecords(impl.MaxRecords+1), 20),
		"many records":              plainLog(slices.Repeat(someRecords(1), 200), 20),
		"a Count below":             {Durable: plainLog(records, 3).Durable, Count: 2},
		"a Count above":             {Durable: plainLog(records, 3).Durable, Count: 4},
		"a Count of nothing":        {Count: 1},
		"a negative Count":          {Count: -1},
		"the least Count":           {Pending: plainLog(records, 0).Pending, Count: math.MinInt},
		"the greatest Count":        {Pending: plainLog(records, 0).Pending, Count: math.MaxInt},
		"the Count 0":               {Pending: plainLog(records, 0).Pending},
		"Pending and Durable swapt": {Durable: plainLog(records, 1).Pending, Pending: plainLog(records, 1).Durable, Count: 3},
		"a line behind":             {Durable: plainLog(records, 3).Durable + "\n", Count: 3},
		"a line in front":           {Durable: "\n", Pending: plainLog(records, 0).Pending, Count: 3},
		"nothing but a line":        {Durable: "\n"},
		"a line as a record":        {Durable: "\n", Count: 1},
		"a space behind":            {Pending: plainLog(records, 0).Pending + " ", Count: 3},
		"30001 bytes":               {Durable: strings.Repeat("a", 30001)},
		"30001 bytes of both":       {Durable: strings.Repeat("a", 30000), Pending: "\n"},
		"30000 bytes":               {Durable: strings.Repeat("a", 29999) + "\n", Count: 1},
		"very many bytes":           {Pending: strings.Repeat("0 a@#1\n", 200000), Count: 40},
		"no end of the line":        {Pending: strings.TrimSuffix(line("0 a@b"), "\n"), Count: 1},
		"another end of the line":   {Pending: strings.TrimSuffix(line("0 a@b"), "\n") + "\r\n", Count: 1},
		"no checksum":               {Pending: "0 a@b\n", Count: 1},
		"an empty checksum":         {Pending: "0 a@b#\n", Count: 1},
		"a checksum of zeros":       {Pending: strings.Replace(line("0 a@b"), "#", "#0", 1), Count: 1},
		"a checksum with a sign":    {Pending: strings.Replace(line("0 a@b"), "#", "#+", 1), Count: 1},
		"two checksums":             {Pending: line(strings.TrimSuffix(line("0 a@b"), "\n")), Count: 1},
		"an invalid record behind":  {Durable: line("0 a@b"), Pending: line("1 @b"), Count: 2},
	}
	for _, text := range []string{
		"", " ", "@", "0", "0 ", "0 a", "0 @b", "0 @", "0a@b", "a@b", " 0 a@b", "00 a@b", "-0 a@b", "+0 a@b", "1 a@b", "-1 a@b", "0\ta@b", "0x0 a@b", "0 a\x1f@b", "0 a\x7f@b", "0 a@b\x80",
		"0 a@\n", "0 \r@b", "0 a@b\r", "0 " + strings.Repeat("a", impl.MaxCommand+1) + "@b", "0 a@" + strings.Repeat("b", impl.MaxReply+1), "40 a@b", "18446744073709551616 a@b", "0 \u00e9@b",
	} {
		bad["the record "+text] = impl.Log{Pending: line(text), Count: 1}
	}
	for _, numbers := range [][]int{{1}, {0, 0}, {0, 2}, {1, 0}, {0, 1, 1}, {0, 1, 3}, {0, 2, 1}, {1, 2, 3}} {
		l := impl.Log{Count: len(numbers)}
		for _, k := range numbers {
			l.Pending += plainEncoding(k, impl.LogRecord{Command: "a", Reply: "b"})
		}
		bad[fmt.Sprint("the numbers ", numbers)] = l
	}
	return bad
}

func TestPromise12InvalidLogs(t *testing.T) {
	for name, l := range badLogs() {
		checkNoLog(t, name, l)
	}
	// A log is durable up to the end of some record.
	records := someRecords(5)
	all := plainLog(records, 5).Durable
	ends := map[int]bool{0: true}
	for k := range records {
		ends[len(plainLog(records, k+1).Durable)] = true
	}
	for size := range len(all) + 1 {
		l := impl.Log{Durable: all[:size], Pending: all[size:], Count: 5}
		if impl.IsValidLog(l) != ends[size] {
			t.Errorf("%d of the bytes durable: %v", size, !ends[size])
		}
		if !ends[size] {
			checkNoLog(t, "an end within a record", l)
		}
	}
}

func TestPromise12ChangedBytesOfLogs(t *testing.T) {
	records := someRecords(5)
	for durable := range 6 {
		l := plainLog(records, durable)
		all := l.Durable + l.Pending
		size, k := 0, 0
		for place := range all {
			if place == size+len(plainEncoding(k, records[k])) {
				size, k = place, k+1
			}
			for _, c := range []byte{all[place] ^ 1, all[place] + 1, 255 - all[place], 0, '\n', ' ', '0', '@', '#', 'a', '~', 255} {
				if c == all[place] {
					continue
				}
				changed := all[:place] + string([]byte{c}) + all[place+1:]
				if bad := (impl.Log{Durable: changed[:len(l.Durable)], Pending: changed[len(l.Durable):], Count: 5}); impl.IsValidLog(bad) {
					t.Fatalf("the byte %d may be %d", place, c)
				}
				if back, read, ok := impl.RecoverLog(changed); durable == 0 && (!ok || read != size || back != plainLog(records[:k], k)) {
					t.Fatalf("the byte %d as %d: RecoverLog = %s, %d, %v", place, c, shortOf(back), read, ok)
				}
			}
		}
	}
}

func TestPromise12AppendRecord(t *testing.T) {
	records := someRecords(impl.MaxRecords)
	for durable := range 4 {
		l := plainLog(records[:durable], durable)
		for n := durable; n < impl.MaxRecords; n++ {
			next, code := impl.AppendRecord(l, records[n])
			if code != impl.LogOK || next != plainLog(records[:n+1], durable) {
				t.Fatalf("AppendRecord(%d records, %+v) = %s, %d", n, records[n], shortOf(next), code)
			}
			for _, e := range badRecords() {
				if same, code := impl.AppendRecord(l, e); code != impl.LogInvalid || same != l {
					t.Fatalf("AppendRecord(%d records, %.50q) = %s, %d", n, e, shortOf(same), code)
				}
			}
			l = next
		}
		for _, full := range []impl.Log{l, plainLog(records, impl.MaxRecords), plainLog(records, 0)} {
			if same, code := impl.AppendRecord(full, records[0]); code != impl.LogFull || same != full {
				t.Fatalf("AppendRecord of a full log = %s, %d", shortOf(same), code)
			}
			for _, e := range badRecords() {
				if same, code := impl.AppendRecord(full, e); code != impl.LogInvalid || same != full {
					t.Fatalf("AppendRecord of a full log and %.50q = %s, %d", e, shortOf(same), code)
				}
			}
		}
	}
	if impl.LogOK != 0 || impl.LogInvalid != 1 || impl.LogFull != 2 {
		t.Error("the codes are others")
	}
}

// TestPromise12Crashes tries each crash of some logs, and recovers from it.
func TestPromise12Crashes(t *testing.T) {
	records := someRecords(5)
	for n := range len(records) + 1 {
		for durable := range n + 1 {
			l := plainLog(records[:n], durable)
			kept := durable
			for keep := range len(l.Pending) + 1 {
				if kept < n && len(l.Durable)+keep == len(plainLog(records[:kept+1], kept+1).Durable) {
					kept++
				}
				whole, ok := impl.CrashLog(l, keep, false)
				if !ok || whole != l.Durable+l.Pending[:keep] {
					t.Fatalf("CrashLog(%d of %d durable, %d) = %.100q, %v", durable, n, keep, whole, ok)
				}
				checkRecovered(t, whole, records[:kept])
				torn, ok := impl.CrashLog(l, keep, true)
				if keep == 0 {
					if !ok || torn != l.Durable {
						t.Fatalf("CrashLog(%d of %d durable, 0, torn) = %.100q, %v", durable, n, torn, ok)
					}
					continue
				}
				if last := len(whole) - 1; !ok || torn != whole[:last]+string([]byte{255 - whole[last]}) {
					t.Fatalf("CrashLog(%d of %d durable, %d, torn) = %.100q, %v", durable, n, keep, torn, ok)
				}
				isAtEnd := whole[len(whole)-1] == '\n'
				if isAtEnd {
					checkRecovered(t, torn, records[:kept-1])
				} else {
					checkRecovered(t, torn, records[:kept])
				}
			}
			for _, keep := range []int{-1, -2, len(l.Pending) + 1, len(l.Durable+l.Pending) + 1, -1 << 32, 1 << 32, math.MinInt, math.MaxInt} {
				for _, torn := range []bool{false, true} {
					if got, ok := impl.CrashLog(l, keep, torn); ok || got != "" {
						t.Fatalf("CrashLog(%d of %d durable, %d) = %.100q, %v", durable, n, keep, got, ok)
					}
				}
			}
		}
	}
}

// checkRecovered checks that just some records are recovered.
func checkRecovered(t *testing.T, s string, records []impl.LogRecord) {
	t.Helper()
	want := plainLog(records, len(records))
	l, read, ok := impl.RecoverLog(s)
	if !ok || l != want || read != len(want.Durable) || !impl.IsValidLog(l) {
		t.Fatalf("RecoverLog(%.100q) = %s, %d, %v; want %d records", s, shortOf(l), read, ok, len(records))
	}
}

func TestPromise12RecoverLog(t *testing.T) {
	full := someRecords(impl.MaxRecords)
	all := plainLog(full, impl.MaxRecords).Durable
	checkRecovered(t, "", nil)
	checkRecovered(t, all, full)
	// One more would exceed the most records, even if it is numbered as the next one.
	checkRecovered(t, all+plainEncoding(impl.MaxRecords, full[0]), full)
	checkRecovered(t, all+plainEncoding(0, full[0]), full)
	checkRecovered(t, all+strings.Repeat("\n", 30000-len(all)), full)
	checkRecovered(t, strings.Repeat("a", 30000), nil)
	checkRecovered(t, strings.Repeat("\n", 30000), nil)
	checkRecovered(t, "\n"+all, nil)
	checkRecovered(t, all[1:], nil)
	checkRecovered(t, all[:len(all)-1], full[:impl.MaxRecords-1])
	for _, s := range []string{strings.Repeat("a", 30001), strings.Repeat("\n", 30001), all + strings.Repeat("\n", 30001-len(all)), strings.Repeat("0", 1000000)} {
		if l, read, ok := impl.RecoverLog(s); ok || read != 0 || l != (impl.Log{}) {
			t.Errorf("RecoverLog of %d bytes = %s, %d, %v", len(s), shortOf(l), read, ok)
		}
	}
	for name, l := range badLogs() {
		s := l.Durable + l.Pending
		if len(s) > 30000 {
			continue
		}
		records, size := plainRecords(s)
		if got, read, ok := impl.RecoverLog(s); !ok || read != size || got != plainLog(records, len(records)) {
			t.Errorf("RecoverLog with %s = %s, %d, %v", name, shortOf(got), read, ok)
		}
	}
}
