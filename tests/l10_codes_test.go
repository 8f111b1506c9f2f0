package tests

import (
	"fmt"
	"math"
	"reflect"
	"regexp"
	"slices"
	"strings"
	"testing"

	"loop.example/g01243/impl"
)

// mostMessage is the most symbols of a message, and mostInOrder the most weights for codes in order.
const (
	mostMessage = 60
	mostInOrder = 8
)

var sequences = regexp.MustCompile("^[01]{1,14}$")

// isPlainCode holds each two sequences against each other.
func isPlainCode(code []string) bool {
	for i, sequence := range code {
		if !sequences.MatchString(sequence) {
			return false
		}
		for _, other := range code[:i] {
			if strings.HasPrefix(sequence, other) || strings.HasPrefix(other, sequence) {
				return false
			}
		}
	}
	return len(code) >= 1 && len(code) <= impl.MaxSymbols
}

// sizesOf returns the lengths of texts.
func sizesOf(texts []string) []int {
	sizes := []int{}
	for _, text := range texts {
		sizes = append(sizes, len(text))
	}
	return sizes
}

// plainFill counts with the lengths as parts of the whole.
func plainFill(lengths []int) int {
	fill := 0
	for _, length := range lengths {
		fill += power(2, impl.MaxBits) / power(2, length)
	}
	return fill
}

// plainCost adds the weight of each symbol as many times as its sequence has signs.
func plainCost(lengths, weights []int) int {
	cost := 0
	for symbol, length := range lengths {
		for range length {
			cost += weights[symbol]
		}
	}
	return cost
}

// hasCode reports whether there is a code with some lengths beside sequences that are there already.
func hasCode(lengths []int, code []string) bool {
	if len(code) > 0 && !isPlainCode(code) {
		return false
	}
	if len(lengths) == 0 {
		return true
	}
	return slices.ContainsFunc(fullRows("01", lengths[0]), func(sequence string) bool {
		return hasCode(lengths[1:], append(slices.Clone(code), sequence))
	})
}

// plainOfLengths tries the sequences of each length by their values, until one does; without any, it
// returns false.
func plainOfLengths(lengths []int) ([]string, bool) {
	code := make([]string, len(lengths))
	before := []string{}
	for length := 1; length <= impl.MaxBits; length++ {
		for symbol := range lengths {
			if lengths[symbol] != length {
				continue
			}
			value := 0
			goesOn := func(sequence string) bool {
				return slices.ContainsFunc(before, func(b string) bool { return strings.HasPrefix(sequence, b) })
			}
			for value < power(2, length) && goesOn(fmt.Sprintf("%0*b", length, value)) {
				value++
			}
			if value == power(2, length) {
				return nil, false
			}
			code[symbol] = fmt.Sprintf("%0*b", length, value)
			before = append(before, code[symbol])
		}
	}
	return code, true
}

// plainBest has for each symbol the least one of its group, and makes two groups one again and again.
func plainBest(weights []int) []int {
	if len(weights) == 1 {
		return []int{1}
	}
	lengths := make([]int, len(weights))
	least, sums := []int{}, slices.Clone(weights)
	for symbol := range weights {
		least = append(least, symbol)
	}
	// The sum of a group is kept at its least symbol; that of a group that is none any more is 0.
	lightest := func(but int) int {
		found := -1
		for symbol, sum := range sums {
			if symbol != but && sum > 0 && (found < 0 || sum < sums[found]) {
				found = symbol
			}
		}
		return found
	}
	for range len(weights) - 1 {
		one := lightest(-1)
		two := lightest(one)
		into, from := min(one, two), max(one, two)
		sums[into], sums[from] = sums[into]+sums[from], 0
		for symbol := range least {
			if least[symbol] == one || least[symbol] == two {
				lengths[symbol]++
				least[symbol] = into
			}
		}
	}
	return lengths
}

// plainLeastCost tries how many symbols, the heaviest first, have sequences of each length, where open
// is the number of beginnings of this length that may be sequences. It returns what the signs behind
// this length cost.
func plainLeastCost(weights []int, length, open int) int {
	if len(weights) == 0 {
		return 0
	}
	if open == 0 || length > impl.MaxBits {
		return math.MaxInt32
	}
	least := math.MaxInt32
	for leaves := 0; leaves <= min(open, len(weights)); leaves++ {
		rest := weights[leaves:]
		// More beginnings than symbols are of no use.
		least = min(least, sumOf(rest)+plainLeastCost(rest, length+1, min(2*(open-leaves), len(rest))))
	}
	return least
}

// heaviestFirst returns weights in their order from the greatest to the least one.
func heaviestFirst(weights []int) []int {
	sorted := slices.Sorted(slices.Values(weights))
	slices.Reverse(sorted)
	return sorted
}

// orderedShapes returns the lengths of all full codes of n symbols in order: each sequence begins where
// those before it end, in the texts of the most signs, and the last one ends where these do.
func orderedShapes(n, filled int) [][]int {
	whole := power(2, impl.MaxBits)
	if n == 0 && filled == whole {
		return [][]int{{}}
	}
	all := [][]int{}
	if n == 0 || filled == whole {
		return all
	}
	for length := 1; length <= impl.MaxBits; length++ {
		size := power(2, impl.MaxBits-length)
		if filled%size != 0 || whole-filled > (n-1)*whole/2+size {
			continue
		}
		for _, rest := range orderedShapes(n-1, filled+size) {
			all = append(all, append([]int{length}, rest...))
		}
	}
	return all
}

// plainInOrder returns the first one of some lengths that has the least cost.
func plainInOrder(shapes [][]int, weights []int) ([]int, int) {
	first, least := []int{1}, weights[0]
	for i, lengths := range shapes {
		cost := plainCost(lengths, weights)
		if i == 0 || cost < least || cost == least && slices.Compare(lengths, first) < 0 {
			first, least = lengths, cost
		}
	}
	return first, least
}

// plainDecode takes sequences away from a text, and returns what is left.
func plainDecode(code []string, s string) ([]int, string) {
	symbols := []int{}
	for len(symbols) < mostMessage {
		symbol := slices.IndexFunc(code, func(sequence string) bool { return strings.HasPrefix(s, sequence) })
		if symbol < 0 {
			break
		}
		symbols = append(symbols, symbol)
		s = strings.TrimPrefix(s, code[symbol])
	}
	return symbols, s
}

// plainBranches returns the beginnings of sequences that are no sequence.
func plainBranches(code []string) []string {
	beginnings := []string{}
	for _, sequence := range code {
		for n := range len(sequence) + 1 {
			beginnings = append(beginnings, sequence[:n])
		}
	}
	return chosen(sortedSet(beginnings), func(b string) bool { return !slices.Contains(code, b) })
}

// listsOf returns all lists of n numbers in 1..greatest.
func listsOf(greatest, n int) [][]int {
	lists := [][]int{{}}
	for range n {
		longer := [][]int{}
		for _, list := range lists {
			for number := 1; number <= greatest; number++ {
				longer = append(longer, append(slices.Clone(list), number))
			}
		}
		lists = longer
	}
	return lists
}

// sameNumbers returns a list of n numbers that are the same.
func sameNumbers(number, n int) []int {
	return slices.Repeat([]int{number}, n)
}

// countUp returns the numbers from 1 to n.
func countUp(n int) []int {
	numbers := []int{}
	for number := 1; number <= n; number++ {
		numbers = append(numbers, number)
	}
	return numbers
}

// zeros returns a text of n signs `0`.
func zeros(n int) string {
	return strings.Repeat("0", n)
}

// chainCode returns a full code of n symbols: `1`, `01`, `001` and so on, and at last only `0`.
func chainCode(n int) []string {
	code := []string{}
	for k := range n - 1 {
		code = append(code, zeros(k)+"1")
	}
	return append(code, zeros(n-1))
}

// longCode returns a code of n sequences of the most signs.
func longCode(n int) []string {
	code := []string{}
	for k := range n {
		code = append(code, fmt.Sprintf("%04b%s", k, zeros(impl.MaxBits-4)))
	}
	return code
}

// mixedCode returns a code of up to n symbols in any order; some are full, and some are not.
func mixedCode(m *mixed, n int) []string {
	code := []string{""}
	for len(code) < n {
		at := m.below(len(code))
		if m.below(2) == 0 {
			// Many times the last one, so that some sequences are long.
			at = len(code) - 1
		}
		code = append(slices.Delete(slices.Clone(code), at, at+1), code[at]+"0", code[at]+"1")
	}
	if code[0] == "" {
		code[0] = fullRow("01")[:1+m.below(12)]
	}
	for at := range code {
		other := m.below(len(code))
		code[at], code[other] = code[other], code[at]
	}
	if m.below(2) == 0 && len(code) > 1 {
		code = code[1:]
	}
	if m.below(3) == 0 {
		code[0] += strings.Repeat("1", impl.MaxBits-len(code[0]))
	}
	return code
}

// edgeCodes are codes at the edges of what a code may be.
func edgeCodes() [][]string {
	codes := [][]string{
		{"0"}, {"1"}, {"01"}, {"000"}, {zeros(14)}, {strings.Repeat("1", 14)}, {"01010101010101"},
		{"0", "1"}, {"1", "0"}, {"00", "01"}, {"0", "10"}, {"0", "11"}, {"1", "00"}, {zeros(13) + "1", zeros(14)}, {zeros(14), "1" + zeros(13)},
		{"0", "10", "11"}, {"10", "0", "11"}, {"11", "10", "0"}, {"00", "01", "10"}, {"00", "01", "1"}, {"010", "1", "00", "011"},
		{"1", "01", zeros(14)}, {"0", "1" + zeros(13)}, {"111", "110", "101", "100", "01"},
		fullRows("01", 2), fullRows("01", 3), fullRows("01", 3)[1:], fullRows("01", 4)[:12], fullRows("01", 4)[4:],
		longCode(1), longCode(2), longCode(11), longCode(12),
	}
	for n := 2; n <= impl.MaxSymbols; n++ {
		codes = append(codes, chainCode(n), chainCode(n)[1:], chainCode(n)[:n-1])
	}
	return codes
}

// someCodes returns codes at the edges, all of a few short sequences, and mixed ones.
func someCodes() [][]string {
	codes := edgeCodes()
	texts := textsOver("01", 3)[1:]
	for i, one := range texts {
		codes = append(codes, []string{one})
		for _, two := range texts {
			codes = append(codes, []string{one, two})
			for _, three := range texts[:i] {
				codes = append(codes, []string{one, two, three})
			}
		}
	}
	m := mixed(1010)
	for n := range 600 {
		codes = append(codes, mixedCode(&m, 1+n%impl.MaxSymbols))
	}
	return slices.DeleteFunc(codes, func(code []string) bool { return !isPlainCode(code) })
}

// mixedNumbers returns a list of n numbers in 1..greatest.
func mixedNumbers(m *mixed, greatest, n int) []int {
	numbers := []int{}
	for range n {
		numbers = append(numbers, 1+m.below(greatest))
	}
	return numbers
}

// edgeWeights are weights at the edges of what they may be.
func edgeWeights() [][]int {
	list := [][]int{
		{1}, {2}, {impl.MaxWeight}, {1, 1}, {1, impl.MaxWeight}, {impl.MaxWeight, 1}, {impl.MaxWeight, impl.MaxWeight}, {impl.MaxWeight, 1, 1}, {1, 1, impl.MaxWeight},
		{1, 5, 1}, {5, 2, 1}, {2, 3, 3, 1}, {1, 1, 2, 2}, {2, 2, 1, 1}, {2, 1, 2, 1}, {1, 2, 2, 1},
		{1, 1, 2, 3, 5, 8, 13, 21, 34, 55, 89, 144}, {144, 89, 55, 34, 21, 13, 8, 5, 3, 2, 1, 1}, {1, 144, 1, 89, 2, 55, 3, 34, 5, 21, 8, 13},
		{1, 1, 2, 4, 8, 16, 32, 64, 128, 256, 512, 999}, {512, 256, 128, 64, 32, 16, 8, 4, 2, 1}, {999, 1, 999, 1, 999, 1, 999, 1}, {999, 1, 999, 1, 999, 1, 999, 1, 999, 1, 999, 1},
		{1, 100, 1, 100}, {1, 100, 1, 300},
		countUp(12), heaviestFirst(countUp(12)), {7, 7, 1, 1, 7, 7, 1, 1},
	}
	for n := 1; n <= impl.MaxSymbols; n++ {
		list = append(list, sameNumbers(1, n), sameNumbers(impl.MaxWeight, n), append(sameNumbers(1, n-1), impl.MaxWeight), append(sameNumbers(3, n-1), 1))
	}
	return list
}

// someWeights returns weights at the edges, all of a few small ones, and mixed ones.
func someWeights() [][]int {
	list := edgeWeights()
	for n := 1; n <= 5; n++ {
		list = append(list, listsOf(4, n)...)
	}
	m := mixed(77)
	for n := range 300 {
		list = append(list, mixedNumbers(&m, []int{2, 3, 6, 20, impl.MaxWeight}[n%5], 1+n%impl.MaxSymbols))
	}
	return list
}

// someLengths returns lengths at the edges, all of a few small ones, and mixed ones; not all of them
// are possible.
func someLengths() [][]int {
	list := [][]int{
		{1}, {14}, {1, 1}, {14, 14}, {1, 1, 14}, {14, 1, 1}, {1, 1, 1}, {2, 1, 2}, {1, 14}, {14, 1}, {1, 2, 14, 14}, {14, 13, 12, 11},
		countUp(12), heaviestFirst(countUp(12)), append(countUp(11), 11), append([]int{11}, heaviestFirst(countUp(11))...), append(countUp(11), 10),
		append(countUp(10), 11, 11), {2, 3, 4, 5, 6, 7, 8, 9, 10, 11, 12, 13}, {3, 4, 5, 6, 7, 8, 9, 10, 11, 12, 13, 14},
	}
	for n := 1; n <= impl.MaxSymbols; n++ {
		for _, length := range []int{1, 2, 3, 4, 13, 14} {
			list = append(list, sameNumbers(length, n))
		}
	}
	for n := 1; n <= 5; n++ {
		list = append(list, listsOf(4, n)...)
	}
	m := mixed(99)
	for n := range 400 {
		list = append(list, mixedNumbers(&m, []int{4, 6, 14}[n%3], 1+n%impl.MaxSymbols))
	}
	for _, code := range someCodes() {
		list = append(list, sizesOf(code))
	}
	return list
}

func TestPromise10IsCode(t *testing.T) {
	for _, code := range someCodes() {
		if !impl.IsCode(code) {
			t.Fatalf("IsCode(%q) is false", code)
		}
	}
	texts := append(textsOver("01", 3), zeros(14), zeros(13)+"1", zeros(15), "2", "0 ")
	check := func(code []string) {
		if got := impl.IsCode(code); got != isPlainCode(code) {
			t.Fatalf("IsCode(%q) is %v", code, got)
		}
	}
	for i, one := range texts {
		check([]string{one})
		for _, two := range texts {
			check([]string{one, two})
			for _, three := range texts {
				check([]string{one, two, three})
				check([]string{three, "11", two, one}[:3+i%2])
			}
		}
	}
	// One sequence that another one begins with, or that is the same, at each pair of places.
	for _, code := range edgeCodes() {
		for i := range code {
			for j := range code {
				spoilt := slices.Clone(code)
				spoilt[i] = spoilt[j]
				check(spoilt)
				spoilt[i] += "0"
				check(spoilt)
				spoilt[i] = spoilt[j][:len(spoilt[j])-1]
				check(spoilt)
			}
		}
	}
}

func TestPromise10Fills(t *testing.T) {
	for _, c := range []struct {
		lengths  []int
		fill     int
		possible bool
	}{
		{[]int{1}, 8192, true}, {[]int{14}, 1, true}, {[]int{13}, 2, true}, {[]int{1, 2, 2}, 16384, true}, {[]int{1, 1}, 16384, true},
		// Just the whole, and one more; twelve lengths come no nearer to it from below than by 4.
		{[]int{1, 1, 14}, 16385, false}, {[]int{14, 1, 1}, 16385, false}, {[]int{1, 14, 1}, 16385, false}, {[]int{1, 1, 14, 14}, 16386, false},
		{append(countUp(11), 11), 16384, true}, {countUp(12), 16380, true}, {countUp(11), 16376, true}, {append(countUp(11), 10), 16392, false},
		{[]int{1, 2, 3, 4, 5, 6, 7, 8, 9, 10, 10, 14}, 16385, false}, {[]int{1, 2, 3, 4, 5, 6, 7, 8, 9, 10, 11, 14}, 16377, true},
		{[]int{1, 1, 1}, 24576, false}, {sameNumbers(1, 12), 98304, false}, {sameNumbers(14, 12), 12, true}, {sameNumbers(4, 12), 12288, true},
		{sameNumbers(3, 8), 16384, true}, {sameNumbers(3, 9), 18432, false}, {sameNumbers(3, 7), 14336, true}, {[]int{2, 2, 1}, 16384, true},
	} {
		fill, ok := impl.FillOf(c.lengths)
		possible, fine := impl.ArePossible(c.lengths)
		if !ok || !fine || fill != c.fill || possible != c.possible {
			t.Errorf("%v: fill %d, %v, possible %v, %v; want %d, %v", c.lengths, fill, ok, possible, fine, c.fill, c.possible)
		}
	}
	for _, lengths := range someLengths() {
		fill, ok := impl.FillOf(lengths)
		possible, fine := impl.ArePossible(lengths)
		want := plainFill(lengths)
		if !ok || !fine || fill != want || possible != (want <= power(2, impl.MaxBits)) {
			t.Fatalf("%v: fill %d, %v, possible %v, %v; want %d", lengths, fill, ok, possible, fine, want)
		}
	}
}

// TestPromise10PossibleLengthsAreThoseOfCodes tries all codes there are.
func TestPromise10PossibleLengthsAreThoseOfCodes(t *testing.T) {
	for n := 1; n <= 4; n++ {
		for _, lengths := range listsOf(3, n) {
			want := hasCode(lengths, nil)
			if possible, ok := impl.ArePossible(lengths); !ok || possible != want {
				t.Fatalf("ArePossible(%v) = %v, %v", lengths, possible, ok)
			}
			if code, ok := impl.PlainCode(lengths); ok != want || !ok && len(code) != 0 {
				t.Fatalf("PlainCode(%v) = %q, %v", lengths, code, ok)
			}
		}
	}
}

func TestPromise10PlainCode(t *testing.T) {
	for _, c := range []struct {
		lengths []int
		code    []string
	}{
		{[]int{1}, []string{"0"}}, {[]int{3}, []string{"000"}}, {[]int{14}, []string{zeros(14)}}, {[]int{1, 1}, []string{"0", "1"}},
		{[]int{2, 1, 2}, []string{"10", "0", "11"}}, {[]int{2, 2, 1}, []string{"10", "11", "0"}}, {[]int{3, 1}, []string{"100", "0"}},
		{[]int{2, 3, 2}, []string{"00", "100", "01"}}, {[]int{14, 14}, []string{zeros(14), zeros(13) + "1"}}, {[]int{14, 1}, []string{"1" + zeros(13), "0"}},
		{[]int{3, 3, 2, 1}, []string{"110", "111", "10", "0"}}, {[]int{4, 2, 4, 1}, []string{"1100", "10", "1101", "0"}},
		{append([]int{11}, heaviestFirst(countUp(11))...), []string{
			"11111111110", "11111111111", "1111111110", "111111110", "11111110", "1111110", "111110", "11110", "1110", "110", "10", "0",
		}},
		{sameNumbers(14, 3), []string{zeros(14), zeros(13) + "1", zeros(12) + "10"}},
	} {
		if code, ok := impl.PlainCode(c.lengths); !ok || !slices.Equal(code, c.code) {
			t.Errorf("PlainCode(%v) = %q, %v; want %q", c.lengths, code, ok, c.code)
		}
	}
	for _, lengths := range someLengths() {
		want, possible := plainOfLengths(lengths)
		if code, ok := impl.PlainCode(lengths); ok != possible || !slices.Equal(code, want) {
			t.Fatalf("PlainCode(%v) = %q, %v; want %q, %v", lengths, code, ok, want, possible)
		}
	}
}

func TestPromise10PlainCodesHaveTheLengthsOfCodes(t *testing.T) {
	for _, code := range someCodes() {
		lengths := sizesOf(code)
		plain, ok := impl.PlainCode(lengths)
		if !ok || !impl.IsCode(plain) || !slices.Equal(sizesOf(plain), lengths) {
			t.Fatalf("PlainCode(%v) = %q, %v", lengths, plain, ok)
		}
		full, ok := impl.IsFullCode(code)
		plainFull, fine := impl.IsFullCode(plain)
		if !ok || !fine || full != plainFull {
			t.Fatalf("IsFullCode(%q) = %v, %v; of %q %v, %v", code, full, ok, plain, plainFull, fine)
		}
	}
}

func TestPromise10FullCodes(t *testing.T) {
	for n := 2; n <= impl.MaxSymbols; n++ {
		if full, ok := impl.IsFullCode(chainCode(n)); !ok || !full {
			t.Errorf("IsFullCode(%q) = %v, %v", chainCode(n), full, ok)
		}
	}
	for _, c := range []struct {
		code []string
		full bool
	}{
		{[]string{"0"}, false}, {[]string{"1"}, false}, {[]string{zeros(14)}, false}, {[]string{"0", "1"}, true}, {[]string{"0", "10"}, false},
		{[]string{"10", "0", "11"}, true}, {[]string{"00", "01", "10"}, false}, {fullRows("01", 3), true}, {fullRows("01", 3)[1:], false},
		{longCode(12), false}, {chainCode(12)[1:], false}, {chainCode(12)[:11], false}, {append(chainCode(12)[:11], zeros(12)), false},
	} {
		if full, ok := impl.IsFullCode(c.code); !ok || full != c.full {
			t.Errorf("IsFullCode(%q) = %v, %v", c.code, full, ok)
		}
	}
	for _, code := range someCodes() {
		// A code is full if nothing can be put beside its sequences.
		longest := slices.Max(sizesOf(code))
		isMissed := func(text string) bool {
			return !slices.ContainsFunc(code, func(sequence string) bool { return strings.HasPrefix(text, sequence) })
		}
		if longest > 8 {
			continue
		}
		if full, ok := impl.IsFullCode(code); !ok || full == slices.ContainsFunc(fullRows("01", longest), isMissed) {
			t.Fatalf("IsFullCode(%q) = %v, %v", code, full, ok)
		}
	}
}

func TestPromise10Costs(t *testing.T) {
	for _, c := range []struct {
		code    []string
		weights []int
		cost    int
	}{
		{[]string{"0"}, []int{1}, 1}, {[]string{"0"}, []int{999}, 999}, {[]string{zeros(14)}, []int{999}, 13986}, {[]string{"1", "0"}, []int{3, 4}, 7},
		{[]string{"0", "10", "11"}, []int{5, 2, 1}, 11}, {[]string{"10", "11", "0"}, []int{5, 2, 1}, 15}, {longCode(12), sameNumbers(999, 12), 167832},
		{chainCode(12), sameNumbers(1, 12), 77}, {chainCode(12), countUp(12), 638},
	} {
		if cost, ok := impl.CostOf(c.code, c.weights); !ok || cost != c.cost {
			t.Errorf("CostOf(%q, %v) = %d, %v; want %d", c.code, c.weights, cost, ok, c.cost)
		}
	}
	m := mixed(5)
	for _, code := range someCodes() {
		weights := mixedNumbers(&m, impl.MaxWeight, len(code))
		if cost, ok := impl.CostOf(code, weights); !ok || cost != plainCost(sizesOf(code), weights) {
			t.Fatalf("CostOf(%q, %v) = %d, %v", code, weights, cost, ok)
		}
		for n := 1; n <= impl.MaxSymbols; n++ {
			if cost, ok := impl.CostOf(code, mixedNumbers(&m, impl.MaxWeight, n)); ok != (n == len(code)) || !ok && cost != 0 {
				t.Fatalf("CostOf(%q) for %d weights = %d, %v", code, n, cost, ok)
			}
		}
	}
}

func TestPromise10BestLengths(t *testing.T) {
	for _, c := range []struct{ weights, lengths []int }{
		{[]int{1}, []int{1}}, {[]int{999}, []int{1}}, {[]int{1, 1}, []int{1, 1}}, {[]int{1, 999}, []int{1, 1}}, {[]int{5, 2, 1}, []int{1, 2, 2}},
		// The same weights.
		{[]int{1, 1, 1}, []int{2, 2, 1}}, {sameNumbers(999, 4), sameNumbers(2, 4)}, {sameNumbers(2, 5), []int{3, 3, 2, 2, 2}},
		{sameNumbers(1, 6), []int{3, 3, 3, 3, 2, 2}}, {sameNumbers(1, 7), []int{3, 3, 3, 3, 3, 3, 2}}, {sameNumbers(1, 8), sameNumbers(3, 8)},
		{sameNumbers(1, 12), []int{4, 4, 4, 4, 4, 4, 4, 4, 3, 3, 3, 3}},
		// Groups with the same weight: their least symbols tell, whichever was put in first.
		{[]int{2, 1, 1}, []int{1, 2, 2}}, {[]int{1, 1, 2}, []int{2, 2, 1}}, {[]int{1, 2, 1}, []int{2, 1, 2}}, {[]int{1, 1, 2, 2}, []int{3, 3, 2, 1}},
		{[]int{2, 2, 1, 1}, []int{2, 2, 2, 2}}, {[]int{2, 1, 2, 1}, []int{2, 3, 1, 3}}, {[]int{1, 2, 2, 1}, []int{3, 2, 1, 3}},
		{[]int{2, 3, 3, 1}, []int{3, 2, 1, 3}}, {[]int{3, 2, 1, 3}, []int{2, 3, 3, 1}}, {[]int{3, 3, 2, 1}, []int{2, 2, 2, 2}},
		// The longest sequences there are.
		{[]int{1, 1, 2, 3, 5, 8, 13, 21, 34, 55, 89, 144}, append([]int{11}, heaviestFirst(countUp(11))...)},
		{[]int{512, 256, 128, 64, 32, 16, 8, 4, 2, 1}, append(countUp(9), 9)},
	} {
		if lengths, ok := impl.BestLengths(c.weights); !ok || !slices.Equal(lengths, c.lengths) {
			t.Errorf("BestLengths(%v) = %v, %v; want %v", c.weights, lengths, ok, c.lengths)
		}
	}
	for _, weights := range someWeights() {
		if lengths, ok := impl.BestLengths(weights); !ok || !slices.Equal(lengths, plainBest(weights)) {
			t.Fatalf("BestLengths(%v) = %v, %v; want %v", weights, lengths, ok, plainBest(weights))
		}
	}
}

func TestPromise10BestCosts(t *testing.T) {
	for _, c := range []struct {
		weights []int
		cost    int
	}{
		{[]int{1}, 1}, {[]int{999}, 999}, {[]int{1, 1}, 2}, {[]int{999, 999}, 1998}, {[]int{5, 2, 1}, 11}, {[]int{1, 5, 1}, 9}, {[]int{1, 1, 1}, 5},
		{sameNumbers(1, 12), 44}, {sameNumbers(999, 12), 43956}, {[]int{1, 1, 2, 2}, 12}, {[]int{512, 256, 128, 64, 32, 16, 8, 4, 2, 1}, 2035},
	} {
		if cost, ok := impl.BestCost(c.weights); !ok || cost != c.cost {
			t.Errorf("BestCost(%v) = %d, %v; want %d", c.weights, cost, ok, c.cost)
		}
	}
	for _, weights := range someWeights() {
		sorted := heaviestFirst(weights)
		want := sumOf(sorted) + plainLeastCost(sorted, 1, 2)
		cost, ok := impl.BestCost(weights)
		if !ok || cost != want {
			t.Fatalf("BestCost(%v) = %d, %v; want %d", weights, cost, ok, want)
		}
		lengths, _ := impl.BestLengths(weights)
		code, ok := impl.PlainCode(lengths)
		if price, fine := impl.CostOf(code, weights); !ok || !fine || price != cost {
			t.Fatalf("%v: BestCost %d, but %q costs %d", weights, cost, code, price)
		}
	}
}

// TestPromise10NoCodeCostsLess holds all codes of a few symbols, and mixed ones of more, against the
// best one.
func TestPromise10NoCodeCostsLess(t *testing.T) {
	possible := map[int][][]int{}
	for _, lengths := range slices.Concat(listsOf(4, 1), listsOf(4, 2), listsOf(4, 3), listsOf(4, 4), listsOf(5, 5)) {
		if plainFill(lengths) <= power(2, impl.MaxBits) {
			possible[len(lengths)] = append(possible[len(lengths)], lengths)
		}
	}
	for n := 1; n <= 5; n++ {
		for _, weights := range listsOf(3, n) {
			least := math.MaxInt
			for _, lengths := range possible[n] {
				least = min(least, plainCost(lengths, weights))
			}
			if cost, ok := impl.BestCost(weights); !ok || cost != least {
				t.Fatalf("BestCost(%v) = %d, %v; want %d", weights, cost, ok, least)
			}
		}
	}
	m := mixed(31)
	for _, code := range someCodes() {
		for _, greatest := range []int{1, 4, impl.MaxWeight} {
			weights := mixedNumbers(&m, greatest, len(code))
			cost, ok := impl.CostOf(code, weights)
			if best, fine := impl.BestCost(weights); !ok || !fine || cost < best {
				t.Fatalf("%q costs %d for %v, BestCost %d", code, cost, weights, best)
			}
		}
	}
}

// someMessages returns messages for a code, of all edges.
func someMessages(m *mixed, symbols int) [][]int {
	messages := [][]int{nil, {}, {0}, {symbols - 1}, sameNumbers(0, mostMessage), sameNumbers(symbols-1, mostMessage), sameNumbers(0, mostMessage-1)}
	for _, size := range []int{1, 2, 3, 12, mostMessage - 1, mostMessage} {
		message := []int{}
		for range size {
			message = append(message, m.below(symbols))
		}
		messages = append(messages, message)
	}
	return messages
}

func TestPromise10MessagesAreDecodedAsTheyWereEncoded(t *testing.T) {
	m := mixed(60)
	for _, code := range someCodes() {
		for _, message := range someMessages(&m, len(code)) {
			want := ""
			for _, symbol := range message {
				want += code[symbol]
			}
			s, ok := impl.EncodeMessage(code, message)
			if !ok || s != want {
				t.Fatalf("EncodeMessage(%q, %v) = %q, %v", code, message, s, ok)
			}
			symbols, left, ok := impl.DecodeText(code, s)
			if !ok || left != 0 || !slices.Equal(symbols, message) {
				t.Fatalf("DecodeText(%q, %q) = %v, %d, %v", code, s, symbols, left, ok)
			}
		}
	}
}

func TestPromise10EncodeMessage(t *testing.T) {
	code := []string{"0", "10", "11"}
	for _, c := range []struct {
		code    []string
		message []int
		s       string
	}{
		{code, nil, ""}, {code, []int{0}, "0"}, {code, []int{2, 1, 0}, "11100"}, {code, []int{0, 2, 1}, "01110"}, {[]string{"01"}, []int{0, 0, 0}, "010101"},
		{code, sameNumbers(2, 60), strings.Repeat("11", 60)}, {longCode(12), sameNumbers(11, 60), strings.Repeat("1011"+zeros(10), 60)},
	} {
		if s, ok := impl.EncodeMessage(c.code, c.message); !ok || s != c.s {
			t.Errorf("EncodeMessage(%q, %v) = %q, %v; want %q", c.code, c.message, s, ok, c.s)
		}
	}
	for _, code := range edgeCodes() {
		n := len(code)
		for _, message := range [][]int{
			{-1}, {n}, {n + 1}, {0, n}, {n, 0}, {0, -1}, {-1, 0}, {math.MinInt}, {math.MaxInt}, {1 << 32}, {-1 << 32}, {-n},
			sameNumbers(0, 61), sameNumbers(n-1, 61), sameNumbers(0, 100000), append(sameNumbers(0, 59), n), append(sameNumbers(0, 59), -1),
		} {
			if s, ok := impl.EncodeMessage(code, message); ok || s != "" {
				t.Errorf("EncodeMessage(%q, %.80v) = %q, %v", code, message, s, ok)
			}
		}
	}
}

func TestPromise10DecodeText(t *testing.T) {
	code := []string{"0", "10", "11"}
	for _, c := range []struct {
		code    []string
		s       string
		symbols []int
		left    int
	}{
		{code, "", nil, 0}, {code, "0", []int{0}, 0}, {code, "1", nil, 1}, {code, "011101", []int{0, 2, 1}, 1}, {code, "1011", []int{1, 2}, 0},
		{[]string{"0"}, "", nil, 0}, {[]string{"0"}, "001", []int{0, 0}, 1}, {[]string{"0"}, "100", nil, 3}, {[]string{"1"}, "110011", []int{0, 0}, 4},
		// Texts that end within a sequence, and that go on with what is none.
		{[]string{zeros(14)}, zeros(13), nil, 13}, {[]string{zeros(14)}, zeros(27), []int{0}, 13}, {[]string{zeros(14)}, zeros(28), []int{0, 0}, 0},
		{[]string{"00", "01"}, "0010", []int{0}, 2}, {[]string{"00", "01"}, "0100000", []int{1, 0, 0}, 1}, {[]string{"01", "001"}, "000", nil, 3},
		{[]string{"01", "001"}, "0010100001", []int{1, 0}, 5}, {[]string{zeros(13) + "1", "1"}, "11" + zeros(14) + "1", []int{1, 1}, 15},
		{[]string{"0" + strings.Repeat("1", 13)}, strings.Repeat("0"+strings.Repeat("1", 13), 3) + "01", []int{0, 0, 0}, 2},
		// More sequences than there may be symbols.
		{[]string{"1", "0"}, zeros(60), sameNumbers(1, 60), 0}, {[]string{"1", "0"}, zeros(61), sameNumbers(1, 60), 1}, {[]string{"0"}, zeros(840), sameNumbers(0, 60), 780},
		{code, strings.Repeat("11", 60) + "10", sameNumbers(2, 60), 2}, {code, strings.Repeat("11", 59) + "10", append(sameNumbers(2, 59), 1), 0},
		{code, strings.Repeat("11", 59) + "1", sameNumbers(2, 59), 1}, {code, strings.Repeat("11", 60) + "1", sameNumbers(2, 60), 1},
		{longCode(12), strings.Repeat("1011"+zeros(10), 60), sameNumbers(11, 60), 0}, {[]string{"0"}, strings.Repeat("1", 840), nil, 840},
	} {
		symbols, left, ok := impl.DecodeText(c.code, c.s)
		if !ok || left != c.left || !slices.Equal(symbols, c.symbols) {
			t.Errorf("DecodeText(%q, %q) = %v, %d, %v; want %v, %d", c.code, c.s, symbols, left, ok, c.symbols, c.left)
		}
	}
}

// someTexts returns texts to be decoded, of all edges; they need not be encoded ones.
func someTexts(m *mixed) []string {
	texts := textsOver("01", 7)
	for _, size := range []int{13, 14, 15, 59, 60, 61, 119, 120, 121, 839, 840} {
		texts = append(texts, zeros(size), strings.Repeat("1", size), strings.Repeat("01", size)[:size])
		for range 4 {
			text := []byte{}
			for range size {
				text = append(text, byte('0'+m.below(2)))
			}
			texts = append(texts, string(text))
		}
	}
	return texts
}

func TestPromise10TextsAreDecodedAsFarAsTheyGo(t *testing.T) {
	m := mixed(14)
	texts := someTexts(&m)
	for _, code := range someCodes() {
		for _, s := range texts {
			want, rest := plainDecode(code, s)
			symbols, left, ok := impl.DecodeText(code, s)
			if !ok || left != len(rest) || !slices.Equal(symbols, want) {
				t.Fatalf("DecodeText(%q, %q) = %v, %d, %v; want %v, %d", code, s, symbols, left, ok, want, len(rest))
			}
			if begun, ok := impl.EncodeMessage(code, symbols); !ok || begun+s[len(s)-left:] != s {
				t.Fatalf("%q: %v is encoded as %q, %v, and decoded from %q", code, symbols, begun, ok, s)
			}
		}
	}
}

func TestPromise10InOrderCode(t *testing.T) {
	for _, c := range []struct {
		weights, lengths []int
		cost             int
	}{
		{[]int{1}, []int{1}, 1}, {[]int{999}, []int{1}, 999}, {[]int{1, 1}, []int{1, 1}, 2}, {[]int{999, 1}, []int{1, 1}, 1000},
		{[]int{1, 5, 1}, []int{1, 2, 2}, 13}, {[]int{5, 1, 1}, []int{1, 2, 2}, 9}, {[]int{1, 1, 5}, []int{2, 2, 1}, 9},
		// Several lengths of the same least cost.
		{[]int{1, 1, 1}, []int{1, 2, 2}, 5}, {[]int{1, 1, 1, 1}, []int{2, 2, 2, 2}, 8}, {[]int{1, 1, 2, 2}, []int{2, 2, 2, 2}, 12},
		{[]int{2, 2, 1, 1}, []int{1, 2, 3, 3}, 12}, {sameNumbers(1, 5), []int{2, 2, 2, 3, 3}, 12}, {sameNumbers(1, 6), []int{2, 2, 3, 3, 3, 3}, 16},
		{sameNumbers(999, 7), []int{2, 3, 3, 3, 3, 3, 3}, 19980}, {sameNumbers(1, 8), sameNumbers(3, 8), 24},
		// Lengths that go up and down, and the longest ones.
		{[]int{1, 100, 1, 100}, []int{2, 2, 2, 2}, 404}, {[]int{1, 100, 1, 300}, []int{2, 3, 3, 1}, 605},
		{[]int{64, 32, 16, 8, 4, 2, 1, 1}, append(countUp(7), 7), 254}, {[]int{1, 1, 2, 4, 8, 16, 32, 64}, append([]int{7}, heaviestFirst(countUp(7))...), 254},
	} {
		lengths, cost, ok := impl.InOrderCode(c.weights)
		if !ok || cost != c.cost || !slices.Equal(lengths, c.lengths) {
			t.Errorf("InOrderCode(%v) = %v, %d, %v; want %v, %d", c.weights, lengths, cost, ok, c.lengths, c.cost)
		}
	}
	shapes := map[int][][]int{}
	for n := 1; n <= mostInOrder; n++ {
		shapes[n] = orderedShapes(n, 0)
	}
	for _, weights := range someWeights() {
		lengths, cost, ok := impl.InOrderCode(weights)
		if len(weights) > mostInOrder {
			if ok || cost != 0 || len(lengths) != 0 {
				t.Fatalf("InOrderCode(%v) = %v, %d, %v", weights, lengths, cost, ok)
			}
			continue
		}
		first, least := plainInOrder(shapes[len(weights)], weights)
		if !ok || cost != least || !slices.Equal(lengths, first) {
			t.Fatalf("InOrderCode(%v) = %v, %d, %v; want %v, %d", weights, lengths, cost, ok, first, least)
		}
		// What is not in order costs no more.
		if best, ok := impl.BestCost(weights); !ok || best > cost {
			t.Fatalf("%v: BestCost %d, InOrderCode %d", weights, best, cost)
		}
	}
}

func TestPromise10CountShapes(t *testing.T) {
	counts := []int{0, 1, 2, 5, 14, 42, 132, 429, 1430, 4862, 16796, 58786}
	for i, want := range counts {
		n := i + 1
		if count, ok := impl.CountShapes(n); !ok || count != want {
			t.Errorf("CountShapes(%d) = %d, %v; want %d", n, count, ok, want)
		}
		if n <= 10 && len(orderedShapes(n, 0)) != want {
			t.Errorf("%d symbols have %d shapes", n, len(orderedShapes(n, 0)))
		}
	}
	for _, n := range badCounts {
		if count, ok := impl.CountShapes(n); ok || count != 0 {
			t.Errorf("CountShapes(%d) = %d, %v", n, count, ok)
		}
	}
}

func TestPromise10BranchesOf(t *testing.T) {
	for _, c := range []struct {
		code     []string
		branches int
	}{
		{[]string{"0"}, 1}, {[]string{"000"}, 3}, {[]string{zeros(14)}, 14}, {[]string{"0", "1"}, 1}, {[]string{"00", "01"}, 2}, {[]string{"00", "11"}, 3},
		{[]string{"0", "10", "11"}, 2}, {[]string{zeros(14), "1" + zeros(13)}, 27}, {[]string{zeros(14), zeros(13) + "1"}, 14},
		{longCode(12), 132}, {chainCode(12), 11}, {chainCode(12)[1:], 11}, {fullRows("01", 3), 7}, {fullRows("01", 3)[1:], 7}, {fullRows("01", 3)[2:], 6},
	} {
		if branches, ok := impl.BranchesOf(c.code); !ok || branches != c.branches {
			t.Errorf("BranchesOf(%q) = %d, %v; want %d", c.code, branches, ok, c.branches)
		}
	}
	for _, code := range someCodes() {
		branches, ok := impl.BranchesOf(code)
		if !ok || branches != len(plainBranches(code)) {
			t.Fatalf("BranchesOf(%q) = %d, %v; want %q", code, branches, ok, plainBranches(code))
		}
		// Only of full codes each branch goes on in both ways.
		if full, _ := impl.IsFullCode(code); full != (branches == len(code)-1) {
			t.Fatalf("%q has %d branches, full: %v", code, branches, full)
		}
	}
}

// badCounts are numbers outside 1..MaxSymbols.
var badCounts = []int{math.MinInt, math.MinInt + 1, -1 << 32, -12, -2, -1, 0, 13, 14, 16, 256, 1 << 32, 1<<32 + 1, math.MaxInt - 1, math.MaxInt}

// badCodes are lists that are no codes.
func badCodes() map[string][]string {
	bad := map[string][]string{
		"nil": nil, "no symbols": {}, "an empty sequence": {""}, "an empty one first": {"", "0"}, "an empty one last": {"0", "1", ""}, "13 symbols": longCode(13),
		"13 symbols in a chain": chainCode(13), "the last of 15 signs": {"1", zeros(15)}, "15 signs": {zeros(15)}, "16 signs": {strings.Repeat("1", 16)},
		"the beginning of another one": {"0", "01"}, "going on with another one": {"01", "0"}, "the same": {"0", "0"}, "the same last": {"10", "0", "11", "10"},
		"a beginning far off": append(chainCode(11), zeros(10)+"1"), "the first one again": append(chainCode(11), "1"), "a beginning of 14 signs": {zeros(14), zeros(13)},
		"a very long sequence": {strings.Repeat("01", 100000)}, "a very long one last": {"0", strings.Repeat("1", 100000)},
		"very many symbols": slices.Repeat([]string{"0", "1"}, 50000), "very many empty ones": make([]string, 100000), "268 signs": {zeros(268)}, "257 symbols": slices.Repeat([]string{"0"}, 257),
	}
	for _, sign := range []string{"2", "/", "a", " ", "-", "+", "O", "l", "\x00", "\x01", "\n", "\xff", "\u0660", "\uff10", "\u00b9", "x0"} {
		bad["the sign "+sign] = []string{sign}
		bad["behind others "+sign] = []string{"10", "11", "0" + sign}
		bad["ahead of others "+sign] = []string{sign + "0", "1"}
		bad["between others "+sign] = []string{"0", "1" + sign + "1"}
	}
	return bad
}

// badNumbers returns lists that are no numbers in 1..greatest for symbols.
func badNumbers(greatest int) [][]int {
	bad := [][]int{nil, {}, sameNumbers(1, 13), sameNumbers(greatest, 13), sameNumbers(greatest, 14), sameNumbers(greatest, 257), sameNumbers(1, 100000), append(sameNumbers(greatest, 12), 0)}
	for _, number := range []int{0, -1, -2, greatest + 1, greatest + 2, -greatest, math.MinInt, math.MinInt + 1, math.MaxInt, math.MaxInt - 1, 1 << 32, 1<<32 + 1, -1<<32 + 1, 64, 1000} {
		if number < 1 || number > greatest {
			bad = append(bad, []int{number}, []int{number, 2}, []int{2, number}, []int{2, number, 2, 2}, append(sameNumbers(4, 11), number))
		}
	}
	return bad
}

// badTexts are no texts of at most 840 signs.
func badTexts() []string {
	return []string{
		zeros(841), strings.Repeat("1", 842), strings.Repeat("01", 421), zeros(100000), zeros(60) + "2", "2", "a", " ", "0 1", "01\n", "\x00", "1\xff", "\uff10", "0\u0661",
		zeros(839) + "2", zeros(838) + "\u00e9", zeros(61) + "x" + zeros(61), "-1", "+0", "0b1",
	}
}

// codeAnswer is a result of any function of chapter 10, with its name.
type codeAnswer struct {
	name    string
	ok      bool
	is      bool
	number  int
	numbers []int
	texts   []string
}

// codeAnswersOf calls all functions of a code, with weights, a message and a text.
func codeAnswersOf(code []string, numbers []int, text string) []codeAnswer {
	full, ok := impl.IsFullCode(code)
	all := []codeAnswer{{name: "IsCode", ok: impl.IsCode(code)}, {name: "IsFullCode", ok: ok, is: full}}
	cost, ok := impl.CostOf(code, numbers)
	all = append(all, codeAnswer{name: "CostOf", ok: ok, number: cost})
	s, ok := impl.EncodeMessage(code, numbers)
	all = append(all, codeAnswer{name: "EncodeMessage", ok: ok, texts: []string{s}})
	symbols, left, ok := impl.DecodeText(code, text)
	all = append(all, codeAnswer{name: "DecodeText", ok: ok, number: left, numbers: symbols})
	branches, ok := impl.BranchesOf(code)
	return append(all, codeAnswer{name: "BranchesOf", ok: ok, number: branches})
}

// lengthAnswersOf calls all functions of lengths.
func lengthAnswersOf(lengths []int) []codeAnswer {
	fill, ok := impl.FillOf(lengths)
	all := []codeAnswer{{name: "FillOf", ok: ok, number: fill}}
	possible, ok := impl.ArePossible(lengths)
	all = append(all, codeAnswer{name: "ArePossible", ok: ok, is: possible})
	code, ok := impl.PlainCode(lengths)
	return append(all, codeAnswer{name: "PlainCode", ok: ok, texts: code})
}

// weightAnswersOf calls all functions of weights.
func weightAnswersOf(weights []int) []codeAnswer {
	lengths, ok := impl.BestLengths(weights)
	all := []codeAnswer{{name: "BestLengths", ok: ok, numbers: lengths}}
	cost, ok := impl.BestCost(weights)
	all = append(all, codeAnswer{name: "BestCost", ok: ok, number: cost})
	ordered, price, ok := impl.InOrderCode(weights)
	return append(all, codeAnswer{name: "InOrderCode", ok: ok, number: price, numbers: ordered})
}

// checkNoCodes checks that all results are those of functions that fail.
func checkNoCodes(t *testing.T, why string, all []codeAnswer) {
	t.Helper()
	for _, a := range all {
		if a.ok || a.is || a.number != 0 || len(a.numbers) != 0 || strings.Join(a.texts, ";") != "" {
			t.Errorf("%.40q: %.200v", why, a)
		}
	}
}

func TestPromise10InvalidCodesFail(t *testing.T) {
	for name, bad := range badCodes() {
		for _, numbers := range [][]int{{1}, {1, 1}, {0}, nil, sameNumbers(1, 3), sameNumbers(2, 12), sameNumbers(2, 13), sameNumbers(1, min(len(bad), 1000))} {
			checkNoCodes(t, name, codeAnswersOf(bad, numbers, "0"))
			checkNoCodes(t, name, codeAnswersOf(bad, numbers, ""))
		}
	}
}

func TestPromise10InvalidLengthsAndWeightsFail(t *testing.T) {
	for _, bad := range badNumbers(impl.MaxBits) {
		checkNoCodes(t, fmt.Sprint("lengths ", bad), lengthAnswersOf(bad))
	}
	for _, bad := range badNumbers(impl.MaxWeight) {
		why := fmt.Sprint("weights ", bad)
		checkNoCodes(t, why, weightAnswersOf(bad))
		for _, code := range edgeCodes() {
			if cost, ok := impl.CostOf(code, bad); ok || cost != 0 {
				t.Fatalf("CostOf(%q, %.80v) = %d, %v", code, bad, cost, ok)
			}
		}
	}
	for n := 1; n <= impl.MaxSymbols; n++ {
		for _, number := range []int{1, impl.MaxBits} {
			if _, ok := impl.FillOf(sameNumbers(number, n)); !ok {
				t.Errorf("FillOf of %d times %d fails", n, number)
			}
		}
		if _, _, ok := impl.InOrderCode(sameNumbers(impl.MaxWeight, n)); ok != (n <= mostInOrder) {
			t.Errorf("InOrderCode of %d weights: %v", n, ok)
		}
	}
}

func TestPromise10InvalidTextsFail(t *testing.T) {
	for _, code := range edgeCodes() {
		for _, bad := range badTexts() {
			if symbols, left, ok := impl.DecodeText(code, bad); ok || left != 0 || len(symbols) != 0 {
				t.Fatalf("DecodeText(%q, %.40q) = %v, %d, %v", code, bad, symbols, left, ok)
			}
		}
	}
	for sign := range 256 {
		s := "0" + string([]byte{byte(sign)})
		isSign := sign == '0' || sign == '1'
		if _, left, ok := impl.DecodeText([]string{"0", "10"}, s); ok != isSign || !ok && left != 0 {
			t.Errorf("DecodeText of %q: %d, %v", s, left, ok)
		}
		if impl.IsCode([]string{s}) != isSign {
			t.Errorf("IsCode of %q is %v", s, !isSign)
		}
	}
}

// codeArguments returns lists and texts, valid or not, for all functions of chapter 10.
func codeArguments() (codes [][]string, numbers [][]int, texts []string) {
	codes = edgeCodes()
	for _, bad := range badCodes() {
		codes = append(codes, bad)
	}
	numbers = slices.Concat(edgeWeights(), badNumbers(impl.MaxBits), badNumbers(impl.MaxWeight), [][]int{{1, 2, 2}, {2, 1, 2}, {0, 1, 2}, sameNumbers(0, 60), sameNumbers(1, 61)})
	texts = append(badTexts(), "", "0", "1", "0110", strings.Repeat("10", 420), zeros(840))
	return codes, numbers, texts
}

func TestPromise13CodesReturnForAllArguments(t *testing.T) {
	codes, numbers, texts := codeArguments()
	for i, code := range codes {
		for j, list := range numbers {
			text := texts[(i+j)%len(texts)]
			beforeCode, beforeList := slices.Clone(code), slices.Clone(list)
			answers := codeAnswersOf(code, list, text)
			if again := codeAnswersOf(code, list, text); !reflect.DeepEqual(answers, again) {
				t.Fatalf("%.80q, %.80v, %.80q: %.200v and %.200v", code, list, text, answers, again)
			}
			if !slices.Equal(code, beforeCode) || !slices.Equal(list, beforeList) {
				t.Fatalf("%.80q, %.80v: an argument is modified", beforeCode, beforeList)
			}
		}
	}
	for _, list := range numbers {
		before := slices.Clone(list)
		answers := append(lengthAnswersOf(list), weightAnswersOf(list)...)
		if again := append(lengthAnswersOf(list), weightAnswersOf(list)...); !reflect.DeepEqual(answers, again) {
			t.Fatalf("%.80v: %.200v and %.200v", list, answers, again)
		}
		if !slices.Equal(list, before) {
			t.Fatalf("%.80v: the argument is modified", before)
		}
	}
	for _, n := range append(countUp(12), badCounts...) {
		count, ok := impl.CountShapes(n)
		if again, fine := impl.CountShapes(n); again != count || fine != ok {
			t.Errorf("CountShapes(%d) = %d, %v and %d, %v", n, count, ok, again, fine)
		}
	}
}

func TestPromise13CodesLeaveWhatIsBehindTheirArguments(t *testing.T) {
	for _, code := range edgeCodes() {
		// Room behind an argument belongs to the caller.
		codeRoom := append(slices.Clone(code), "room", "more room")
		lengthRoom := append(sizesOf(code), 77, 78)
		message := []int{len(code) - 1, 0, 0, 99, 98}
		beforeCode, beforeLengths, beforeMessage := slices.Clone(codeRoom), slices.Clone(lengthRoom), slices.Clone(message)
		codeAnswersOf(codeRoom[:len(code)], lengthRoom[:len(code)], "0110")
		codeAnswersOf(codeRoom[:len(code)], message[:3], zeros(40))
		lengthAnswersOf(lengthRoom[:len(code)])
		weightAnswersOf(lengthRoom[:len(code)])
		if !slices.Equal(codeRoom, beforeCode) || !slices.Equal(lengthRoom, beforeLengths) || !slices.Equal(message, beforeMessage) {
			t.Fatalf("%q: what is behind an argument is modified", code)
		}
	}
}

// TestPromise13CodesShareNoMemory changes all results, and asks for them again.
func TestPromise13CodesShareNoMemory(t *testing.T) {
	for _, code := range edgeCodes() {
		ask := func() []codeAnswer {
			lengths := sizesOf(code)
			return slices.Concat(codeAnswersOf(code, lengths, strings.Join(code, "")), lengthAnswersOf(lengths), weightAnswersOf(lengths))
		}
		want, got := ask(), ask()
		before := slices.Clone(code)
		for _, a := range got {
			spoil(a.numbers, -77)
			spoil(a.texts, "spoilt")
		}
		if again := ask(); !reflect.DeepEqual(again, want) || !slices.Equal(code, before) {
			t.Fatalf("%q: a result shares memory", code)
		}
	}
	weights := []int{3, 1, 2}
	lengths, _ := impl.BestLengths(weights)
	ordered, _, _ := impl.InOrderCode(weights)
	plain, _ := impl.PlainCode(lengths)
	spoil(ordered, 9)
	if !slices.Equal(lengths, []int{1, 2, 2}) || !slices.Equal(weights, []int{3, 1, 2}) {
		t.Errorf("weights %v, lengths %v", weights, lengths)
	}
	spoil(lengths, 9)
	if !slices.Equal(plain, []string{"0", "10", "11"}) || !slices.Equal(weights, []int{3, 1, 2}) {
		t.Errorf("weights %v, code %q", weights, plain)
	}
}
