package tests

import (
	"bytes"
	"math"
	"slices"
	"strconv"
	"strings"
	"testing"

	"loop.example/g01243/impl"
)

// textsOver returns all texts of at most n of the given letters, the shorter ones first.
func textsOver(letters string, n int) []string {
	all := []string{""}
	last := all
	for range n {
		var next []string
		for _, s := range last {
			for i := range len(letters) {
				next = append(next, s+letters[i:i+1])
			}
		}
		all = append(all, next...)
		last = next
	}
	return all
}

func TestPromise1FormatInt(t *testing.T) {
	for n, want := range map[int]string{
		0: "0", 1: "1", -1: "-1", 9: "9", 10: "10", -12: "-12", 100: "100", -100: "-100",
		12345: "12345", 999999: "999999", -999999: "-999999", 999998: "999998",
	} {
		if s, ok := impl.FormatInt(n); !ok || s != want {
			t.Errorf("FormatInt(%d) = %q, %v", n, s, ok)
		}
	}
	for _, n := range []int{
		1000000, -1000000, 1000001, 1 << 31, 1 << 32, 1<<32 + 5, -1 << 32, math.MaxInt, math.MinInt,
	} {
		if s, ok := impl.FormatInt(n); ok || s != "" {
			t.Errorf("FormatInt(%d) = %q, %v", n, s, ok)
		}
	}
}

func TestPromise1NumbersRoundTrip(t *testing.T) {
	for n := -impl.MaxDecimal; n <= impl.MaxDecimal; n++ {
		s, ok := impl.FormatInt(n)
		if !ok {
			t.Fatalf("FormatInt(%d) fails", n)
		}
		if m, ok := impl.ParseInt(s); !ok || m != n {
			t.Fatalf("ParseInt(%q) = %d, %v", s, m, ok)
		}
	}
}

func TestPromise1ParseIntRefuses(t *testing.T) {
	for _, s := range []string{
		"", "-", "+", "+1", "+0", "-0", "--1", "-+1", "00", "01", "-01", "000123", "0999999",
		"1000000", "-1000000", "1000001", "9999999", " 1", "1 ", "1\n", "\t1", "- 1", "1x", "x1",
		"1_000", "0x1", "0b1", "0o7", "1e3", "1.0", "1,000", "1-", "1\x00", "\x001", "\xff",
		"\uff11", "\u0661", "\u22121", "18446744073709551617", "-18446744073709551615",
		"9223372036854775807", "9223372036854775808", "-9223372036854775808", "4294967297",
		strings.Repeat("0", 5000) + "1", strings.Repeat("9", 5000), strings.Repeat("-", 5000),
	} {
		if n, ok := impl.ParseInt(s); ok || n != 0 {
			t.Errorf("ParseInt(%.40q) = %d, %v", s, n, ok)
		}
	}
}

func TestPromise1ParseIntAcceptsJustWhatIsWritten(t *testing.T) {
	written := map[string]int{}
	for n := -9999; n <= 9999; n++ {
		s, _ := impl.FormatInt(n)
		written[s] = n
	}
	for _, s := range textsOver("019-+ _x", 4) {
		want, known := written[s]
		if n, ok := impl.ParseInt(s); ok != known || n != want {
			t.Errorf("ParseInt(%q) = %d, %v", s, n, ok)
		}
	}
}

func TestPromise1SplitString(t *testing.T) {
	for _, c := range []struct {
		s, sep string
		want   []string
	}{
		{"a,,b", ",", []string{"a", "", "b"}},
		{"", ",", []string{""}},
		{",", ",", []string{"", ""}},
		{",,", ",", []string{"", "", ""}},
		{"a", ",", []string{"a"}},
		{",a", ",", []string{"", "a"}},
		{"a,", ",", []string{"a", ""}},
		{"a,b;c", ";", []string{"a,b", "c"}},
		{"one two  three", " ", []string{"one", "two", "", "three"}},
		{"a\nb", "\n", []string{"a", "b"}},
		{"a\x00b\x00", "\x00", []string{"a", "b", ""}},
		{"\xff\xfe\xff", "\xff", []string{"", "\xfe", ""}},
		{"\u00e9!", "\xc3", []string{"", "\xa9!"}},
		{"\u00e9!", "\xa9", []string{"\xc3", "!"}},
	} {
		if got, ok := impl.SplitString(c.s, c.sep); !ok || !slices.Equal(got, c.want) {
			t.Errorf("SplitString(%q, %q) = %q, %v", c.s, c.sep, got, ok)
		}
	}
}

func TestPromise1SplitStringRefuses(t *testing.T) {
	for _, sep := range []string{"", ",,", ", ", "\u00e9", "abc", strings.Repeat(",", 5000)} {
		for _, s := range []string{"", "a", "a,,b", ",,", "\u00e9"} {
			if got, ok := impl.SplitString(s, sep); ok || len(got) != 0 {
				t.Errorf("SplitString(%q, %.9q) = %q, %v", s, sep, got, ok)
			}
		}
	}
	for _, s := range []string{"a", ","} {
		for n, fits := range map[int]bool{
			impl.MaxString - 1: true, impl.MaxString: true, impl.MaxString + 1: false, 100000: false,
		} {
			got, ok := impl.SplitString(strings.Repeat(s, n), ",")
			want := 0
			if fits {
				want = strings.Count(strings.Repeat(s, n), ",") + 1
			}
			if ok != fits || len(got) != want {
				t.Errorf("SplitString of %d times %q: %d parts, %v", n, s, len(got), ok)
			}
		}
	}
}

func TestPromise1SplitAndJoinRoundTrip(t *testing.T) {
	for _, s := range textsOver("a,;\xc3", 6) {
		for _, sep := range []string{",", ";", "a", "\xc3", "x"} {
			parts, ok := impl.SplitString(s, sep)
			if !ok || len(parts) != strings.Count(s, sep)+1 {
				t.Fatalf("SplitString(%q, %q) = %q, %v", s, sep, parts, ok)
			}
			for _, part := range parts {
				if strings.Contains(part, sep) {
					t.Fatalf("SplitString(%q, %q) = %q", s, sep, parts)
				}
			}
			if back, ok := impl.JoinStrings(parts, sep); !ok || back != s {
				t.Fatalf("JoinStrings(%q, %q) = %q, %v", parts, sep, back, ok)
			}
		}
	}
}

func TestPromise1EachByteIsASeparator(t *testing.T) {
	for c := range 256 {
		sep := string([]byte{byte(c)})
		other := string([]byte{byte(c) ^ 1, byte(c) ^ 128})
		parts := []string{other, "", other + other, ""}
		s, ok := impl.JoinStrings(parts, sep)
		if want := other + sep + sep + other + other + sep; !ok || s != want {
			t.Errorf("JoinStrings(%q, %q) = %q, %v", parts, sep, s, ok)
		}
		if got, ok := impl.SplitString(s, sep); !ok || !slices.Equal(got, parts) {
			t.Errorf("SplitString(%q, %q) = %q, %v", s, sep, got, ok)
		}
	}
}

func TestPromise1JoinStrings(t *testing.T) {
	for _, c := range []struct {
		parts []string
		sep   string
		want  string
	}{
		{[]string{"a", "", "b"}, ";", "a;;b"},
		{[]string{""}, ",", ""},
		{[]string{"", ""}, ",", ","},
		{[]string{"a"}, ",", "a"},
		{[]string{"a;b", "c"}, ",", "a;b,c"},
		{[]string{"\u00e9", "\xff"}, " ", "\u00e9 \xff"},
	} {
		if got, ok := impl.JoinStrings(c.parts, c.sep); !ok || got != c.want {
			t.Errorf("JoinStrings(%q, %q) = %q, %v", c.parts, c.sep, got, ok)
		}
		if back, ok := impl.SplitString(c.want, c.sep); !ok || !slices.Equal(back, c.parts) {
			t.Errorf("SplitString(%q, %q) = %q, %v", c.want, c.sep, back, ok)
		}
	}
}

func TestPromise1JoinStringsRefuses(t *testing.T) {
	for _, c := range []struct {
		parts []string
		sep   string
	}{
		{nil, ","}, {[]string{}, ","}, {nil, ""}, {[]string{"a"}, ""}, {[]string{"a", "b"}, ""},
		{[]string{"a"}, ",,"}, {[]string{"a", "b"}, ",;"}, {[]string{"a", "b"}, "\u00e9"},
		{[]string{"a;b"}, ";"}, {[]string{";"}, ";"}, {[]string{";a", "b"}, ";"},
		{[]string{"a", "b;"}, ";"}, {[]string{"a", "b;c", "d"}, ";"}, {[]string{"", "", ";"}, ";"},
		{[]string{"\u00e9"}, "\xa9"}, {[]string{"a", "\u00e9"}, "\xc3"},
	} {
		if got, ok := impl.JoinStrings(c.parts, c.sep); ok || got != "" {
			t.Errorf("JoinStrings(%q, %q) = %q, %v", c.parts, c.sep, got, ok)
		}
	}
}

func TestPromise1JoinStringsToTheLimit(t *testing.T) {
	half := strings.Repeat("a", impl.MaxString/2)
	for _, c := range []struct {
		parts []string
		fits  bool
	}{
		{[]string{half + half}, true},
		{[]string{half + half + "a"}, false},
		{[]string{half, half}, false},
		{[]string{half, half[1:]}, true},
		{[]string{half + half, ""}, false},
		{[]string{"", half + half}, false},
		{[]string{"", half + half[1:]}, true},
		{[]string{half, half[2:], ""}, true},
		{[]string{half, half[2:], "a"}, false},
		{make([]string, impl.MaxString), true},
		{make([]string, impl.MaxString+1), true},
		{make([]string, impl.MaxString+2), false},
		{make([]string, 1000000), false},
		{[]string{strings.Repeat("a", 1000000), ""}, false},
	} {
		got, ok := impl.JoinStrings(c.parts, ",")
		want := ""
		if c.fits {
			want = strings.Join(c.parts, ",")
		}
		if ok != c.fits || got != want {
			t.Errorf("JoinStrings of %d parts: %d bytes, %v", len(c.parts), len(got), ok)
		}
	}
}

func TestPromise1LessString(t *testing.T) {
	all := textsOver("\x00aB\x7f\x80\xff", 3)
	for _, a := range all {
		for _, b := range all {
			want := bytes.Compare([]byte(a), []byte(b)) < 0
			if got := impl.LessString(a, b); got != want {
				t.Fatalf("LessString(%q, %q) = %v", a, b, got)
			}
		}
	}
	long := strings.Repeat("a", 100000)
	for _, c := range []struct {
		a, b string
		want bool
	}{
		{"a", "ab", true}, {"ab", "a", false}, {"", "", false}, {"", "a", true}, {"a", "a", false},
		{"Z", "a", true}, {"10", "9", true}, {"z", "\u00e9", true}, {long, long, false},
		{long, long + "a", true}, {long + "a", long, false}, {long + "a", long + "b", true},
	} {
		if got := impl.LessString(c.a, c.b); got != c.want {
			t.Errorf("LessString(%.9q, %.9q) = %v", c.a, c.b, got)
		}
	}
}

func TestPromise1Checksum(t *testing.T) {
	every := make([]byte, 256)
	for i := range every {
		every[i] = byte(i)
	}
	for _, c := range []struct {
		s    string
		want int
	}{
		{"", 7}, {"a", 385}, {"b", 386}, {"ab", 15884}, {"ba", 15924}, {"#", 323}, {"\x00", 288},
		{"\xff", 543}, {"\u00e9", 19973}, {"hello, world", 588687}, {"0 add w@1", 406192},
		{string(every), 750103}, {strings.Repeat("a", impl.MaxString-1), 469189},
		{strings.Repeat("a", impl.MaxString), 237246},
		{strings.Repeat("\xff", impl.MaxString), 55992},
	} {
		if got, ok := impl.Checksum(c.s); !ok || got != c.want {
			t.Errorf("Checksum(%.20q) = %d, %v", c.s, got, ok)
		}
	}
	for _, n := range []int{impl.MaxString + 1, 100000} {
		if got, ok := impl.Checksum(strings.Repeat("a", n)); ok || got != 0 {
			t.Errorf("Checksum of %d bytes = %d, %v", n, got, ok)
		}
	}
}

func TestPromise1AppendAndVerifyChecksum(t *testing.T) {
	for s, want := range map[string]string{
		"": "#7", "a": "a#385", "ab": "ab#15884", "\x00": "\x00#288", "\xff": "\xff#543",
		"hello, world": "hello, world#588687", "0 add w@1": "0 add w@1#406192",
	} {
		if got, ok := impl.AppendChecksum(s); !ok || got != want {
			t.Errorf("AppendChecksum(%q) = %q, %v", s, got, ok)
		}
		if back, ok := impl.VerifyChecksum(want); !ok || back != s {
			t.Errorf("VerifyChecksum(%q) = %q, %v", want, back, ok)
		}
	}
	for _, s := range textsOver("ab \n\xff", 4) {
		sealed, ok := impl.AppendChecksum(s)
		if back, fine := impl.VerifyChecksum(sealed); !ok || !fine || back != s {
			t.Fatalf("AppendChecksum(%q) = %q, %v; back: %q, %v", s, sealed, ok, back, fine)
		}
	}
	for _, s := range []string{"#", "a#", "#a", "a#b", "##", "a#385", "#7"} {
		if got, ok := impl.AppendChecksum(s); ok || got != "" {
			t.Errorf("AppendChecksum(%q) = %q, %v", s, got, ok)
		}
	}
}

func TestPromise1ChecksumsToTheLimit(t *testing.T) {
	for _, c := range []struct {
		letter string
		n      int
		fits   bool
	}{
		{"m", 3993, true}, {"a", 3993, true}, {"a", 3994, false}, {"y", 3994, true},
		{"b", 3995, true}, {"a", 3995, false}, {"a", 3996, false}, {"a", 3999, false},
		{"a", impl.MaxString, false}, {"a", impl.MaxString + 1, false}, {"a", 100000, false},
	} {
		s := strings.Repeat(c.letter, c.n)
		sealed, ok := impl.AppendChecksum(s)
		if ok != c.fits || ok && !strings.HasPrefix(sealed, s+"#") || !ok && sealed != "" {
			t.Errorf("AppendChecksum of %d %s: %d bytes, %v", c.n, c.letter, len(sealed), ok)
		}
		back, ok := impl.VerifyChecksum(sealed)
		if ok != c.fits || ok && back != s {
			t.Errorf("VerifyChecksum of %d %s: %d bytes, %v", c.n, c.letter, len(back), ok)
		}
	}
	// These are right but for their size, so AppendChecksum does not return them.
	for n, sum := range map[int]int{3994: 441580, 3999: 469189, impl.MaxString: 237246} {
		s := strings.Repeat("a", n) + "#" + strconv.Itoa(sum)
		if back, ok := impl.VerifyChecksum(s); ok || back != "" {
			t.Errorf("VerifyChecksum of %d bytes: %d bytes, %v", len(s), len(back), ok)
		}
	}
}

func TestPromise1VerifyChecksumRefuses(t *testing.T) {
	for _, s := range []string{
		"", "a", "#", "a#", "385", "#385", "a#384", "a#386", "a#0385", "a#+385", "a#-385", "a# 385",
		"a#385 ", "a#385\n", " a#385", "b#385", "a#385#1", "a#385#", "#a#385", "a##385", "aa#385",
		"a#38", "a#3850", "#07", "#-7", "#8", "a#1000364", "a#323#582", "a#385a#385",
		strings.Repeat("#", 5000), strings.Repeat("a", 100000), strings.Repeat("a", 100000) + "#7",
		"a#" + strings.Repeat("0", 100000) + "385",
	} {
		if got, ok := impl.VerifyChecksum(s); ok || got != "" {
			t.Errorf("VerifyChecksum(%.20q) = %q, %v", s, got, ok)
		}
	}
	// A text with a `#` is never sealed, even if the sum of the whole would be right.
	for _, s := range []string{"#", "a#385", "#7", "a#b"} {
		sum, _ := impl.Checksum(s)
		decimal, _ := impl.FormatInt(sum)
		if got, ok := impl.VerifyChecksum(s + "#" + decimal); ok || got != "" {
			t.Errorf("VerifyChecksum(%q) = %q, %v", s+"#"+decimal, got, ok)
		}
	}
}

// checkChanges puts each other byte in the given place of a result of AppendChecksum.
func checkChanges(t *testing.T, sealed string, place int) {
	t.Helper()
	changed := []byte(sealed)
	for c := range 256 {
		if byte(c) == sealed[place] {
			continue
		}
		changed[place] = byte(c)
		if got, ok := impl.VerifyChecksum(string(changed)); ok || got != "" {
			t.Errorf("place %d as %d in %.40q: %.20q, %v", place, c, sealed, got, ok)
		}
	}
}

func TestPromise1EachChangedByteIsDetected(t *testing.T) {
	for _, s := range []string{
		"", "a", "\x00", "\xff", "7", "385", "hello, world", "0 add word@12", "\u00e9\n\r\t",
		strings.Repeat("z", 300), strings.Repeat("\x00\xff", 100), strings.Repeat("1", 250),
	} {
		sealed, ok := impl.AppendChecksum(s)
		if !ok {
			t.Fatalf("AppendChecksum(%q) fails", s)
		}
		for place := range len(sealed) {
			checkChanges(t, sealed, place)
		}
	}
	sealed, ok := impl.AppendChecksum(strings.Repeat("b", 3995))
	if !ok || len(sealed) != impl.MaxString {
		t.Fatalf("the longest result has %d bytes, %v", len(sealed), ok)
	}
	for _, place := range []int{0, 1, 2000, 3994, 3995, 3996, 3999} {
		checkChanges(t, sealed, place)
	}
}

func TestPromise13StringsReturnForAllArguments(t *testing.T) {
	numbers := []int{
		math.MinInt, math.MinInt + 1, -1 << 32, -1000000, -999999, -1, 0, 1, 999999, 1000000, 1 << 32,
		math.MaxInt - 1, math.MaxInt,
	}
	texts := []string{
		"", "a", ",", "#", "-", "a,b", "a#385", "#7", "-0", "1", "\x00", "\xff", "\xc3", "\u00e9",
		"\u65e5\u672c", strings.Repeat("a", impl.MaxString), strings.Repeat("#", impl.MaxString),
		strings.Repeat("9", impl.MaxString+1), strings.Repeat(",", 100000),
	}
	lists := [][]string{nil, {}, {""}, texts, make([]string, 100000), {",", "#", "a"}}
	for range 2 {
		for _, n := range numbers {
			if s, ok := impl.FormatInt(n); ok != (s != "") {
				t.Errorf("FormatInt(%d) = %q, %v", n, s, ok)
			}
		}
		for _, a := range texts {
			checkOneText(t, a)
			for _, b := range texts {
				first, ok := impl.SplitString(a, b)
				again, fine := impl.SplitString(a, b)
				if ok != fine || ok != (len(first) > 0) || !slices.Equal(first, again) {
					t.Errorf("SplitString(%.9q, %.9q): %v, %v", a, b, ok, fine)
				}
				if impl.LessString(a, b) && impl.LessString(b, a) {
					t.Errorf("LessString(%.9q, %.9q) both ways", a, b)
				}
			}
			for _, list := range lists {
				first, ok := impl.JoinStrings(list, a)
				again, fine := impl.JoinStrings(list, a)
				if ok != fine || first != again || !ok && first != "" {
					t.Errorf("JoinStrings(%d parts, %.9q): %v, %v", len(list), a, ok, fine)
				}
			}
		}
	}
}

// checkOneText checks for the functions of one text that they return the same again, and zero
// values if they fail.
func checkOneText(t *testing.T, s string) {
	t.Helper()
	n, ok := impl.ParseInt(s)
	if m, fine := impl.ParseInt(s); m != n || fine != ok || !ok && n != 0 {
		t.Errorf("ParseInt(%.9q) = %d, %v", s, n, ok)
	}
	n, ok = impl.Checksum(s)
	if m, fine := impl.Checksum(s); m != n || fine != ok || !ok && n != 0 {
		t.Errorf("Checksum(%.9q) = %d, %v", s, n, ok)
	}
	x, ok := impl.AppendChecksum(s)
	if y, fine := impl.AppendChecksum(s); y != x || fine != ok || !ok && x != "" {
		t.Errorf("AppendChecksum(%.9q) = %.9q, %v", s, x, ok)
	}
	x, ok = impl.VerifyChecksum(s)
	if y, fine := impl.VerifyChecksum(s); y != x || fine != ok || !ok && x != "" {
		t.Errorf("VerifyChecksum(%.9q) = %.9q, %v", s, x, ok)
	}
}

func TestPromise13JoinStringsLeavesItsList(t *testing.T) {
	for _, sep := range []string{",", "", ",,", "b", "\xff"} {
		whole := []string{"z", "b", "", "a", "kept", "behind"}
		parts := whole[:4]
		impl.JoinStrings(parts, sep)
		if !slices.Equal(whole, []string{"z", "b", "", "a", "kept", "behind"}) {
			t.Errorf("JoinStrings with %q made its list %q", sep, whole)
		}
	}
}

func TestPromise13SplitStringResultsShareNothing(t *testing.T) {
	first, _ := impl.SplitString("a,b,c", ",")
	second, _ := impl.SplitString("a,b,c", ",")
	for i := range first {
		first[i] = "x"
	}
	for full := first[:cap(first)]; len(full) > 0; full = full[1:] {
		full[0] = "x"
	}
	third, _ := impl.SplitString("a,b,c", ",")
	for _, got := range [][]string{second, third} {
		if !slices.Equal(got, []string{"a", "b", "c"}) {
			t.Errorf("a changed result changes another one: %q", got)
		}
	}
}
