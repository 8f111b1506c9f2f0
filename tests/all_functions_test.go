package tests

import (
	"go/ast"
	"go/parser"
	"go/token"
	"maps"
	"math"
	"path/filepath"
	"reflect"
	"slices"
	"strings"
	"testing"

	"loop.example/g01243/impl"
)

// allFunctions are the functions that the document lists, chapter by chapter.
func allFunctions() map[string]any {
	return map[string]any{
		"FormatInt": impl.FormatInt, "ParseInt": impl.ParseInt, "SplitString": impl.SplitString, "JoinStrings": impl.JoinStrings,
		"LessString": impl.LessString, "Checksum": impl.Checksum, "AppendChecksum": impl.AppendChecksum, "VerifyChecksum": impl.VerifyChecksum,
		"IsWord": impl.IsWord, "IsTrie": impl.IsTrie, "TrieOf": impl.TrieOf, "WordsOf": impl.WordsOf, "HasWord": impl.HasWord, "AddWord": impl.AddWord,
		"DropWord": impl.DropWord, "CountWords": impl.CountWords, "NodeOf": impl.NodeOf, "PrefixOf": impl.PrefixOf, "KidsOf": impl.KidsOf,
		"CountUnder": impl.CountUnder, "RankOf": impl.RankOf, "WordAt": impl.WordAt, "DepthOf": impl.DepthOf, "SaveOf": impl.SaveOf,
		"TrieText": impl.TrieText, "ParseTrie": impl.ParseTrie,
		"LongestMatch": impl.LongestMatch, "MatchesAt": impl.MatchesAt, "StandingWords": impl.StandingWords, "UniquePrefix": impl.UniquePrefix,
		"SharedPrefix": impl.SharedPrefix, "WordsUnder": impl.WordsUnder, "CompleteTo": impl.CompleteTo, "CountSplits": impl.CountSplits,
		"BestSplit": impl.BestSplit, "GreedySplit": impl.GreedySplit, "SplitPlaces": impl.SplitPlaces, "MostCovered": impl.MostCovered,
		"IsPressed": impl.IsPressed, "PressTrie": impl.PressTrie, "OpenPressed": impl.OpenPressed, "StayingNodes": impl.StayingNodes,
		"CountBranches": impl.CountBranches, "BranchPrefix": impl.BranchPrefix, "BranchOf": impl.BranchOf, "AddPressed": impl.AddPressed,
		"DropPressed": impl.DropPressed, "LongestBranch": impl.LongestBranch, "CountLetters": impl.CountLetters, "StepsTo": impl.StepsTo,
		"PressedText": impl.PressedText,
		"JoinTries":   impl.JoinTries, "MeetTries": impl.MeetTries, "WithoutTrie": impl.WithoutTrie, "TimesTrie": impl.TimesTrie,
		"BehindPrefix": impl.BehindPrefix, "CloseTrie": impl.CloseTrie, "IsClosed": impl.IsClosed, "IsFree": impl.IsFree, "FirstWords": impl.FirstWords,
		"LastWords": impl.LastWords, "TurnTrie": impl.TurnTrie, "ShiftTrie": impl.ShiftTrie, "IsPartTrie": impl.IsPartTrie,
		"DifferTries": impl.DifferTries,
		"DistanceOf":  impl.DistanceOf, "DifferenceOf": impl.DifferenceOf, "NearWords": impl.NearWords, "AlikeWords": impl.AlikeWords,
		"NearestWord": impl.NearestWord, "IsPattern": impl.IsPattern, "DoesFit": impl.DoesFit, "FittingWords": impl.FittingWords,
		"PlainPattern": impl.PlainPattern, "EditsOf": impl.EditsOf, "NeighborPairs": impl.NeighborPairs, "LongestCommon": impl.LongestCommon,
		"MachineOf": impl.MachineOf, "IsMachine": impl.IsMachine, "TrieOfMachine": impl.TrieOfMachine, "CountEdges": impl.CountEdges,
		"StateOf": impl.StateOf, "DoesTake": impl.DoesTake, "BehindState": impl.BehindState, "NumberOf": impl.NumberOf, "WordNumbered": impl.WordNumbered,
		"SavedNodes": impl.SavedNodes, "HaveEqualEnds": impl.HaveEqualEnds, "LevelOf": impl.LevelOf, "JoiningStates": impl.JoiningStates,
		"IsText": impl.IsText, "SubstringsOf": impl.SubstringsOf, "CountSubstrings": impl.CountSubstrings, "CountOfLength": impl.CountOfLength,
		"OccursAt": impl.OccursAt, "LongestRepeat": impl.LongestRepeat, "ShortestOnce": impl.ShortestOnce, "EndsOf": impl.EndsOf,
		"CommonWithNext": impl.CommonWithNext, "ShortestAbsent": impl.ShortestAbsent, "CommonSubstring": impl.CommonSubstring, "SquaresOf": impl.SquaresOf,
		"TurnsBack": impl.TurnsBack, "SubstringTrie": impl.SubstringTrie,
		"ChanceUnder": impl.ChanceUnder, "MeanLetters": impl.MeanLetters, "ChanceOfDescent": impl.ChanceOfDescent,
		"LikeliestDescent": impl.LikeliestDescent, "MeanDescent": impl.MeanDescent, "ChanceHit": impl.ChanceHit, "ChanceBegins": impl.ChanceBegins,
		"MeanCommon": impl.MeanCommon, "MeanUnique": impl.MeanUnique, "ChanceSameStart": impl.ChanceSameStart, "BestLetter": impl.BestLetter,
		"IsCode": impl.IsCode, "FillOf": impl.FillOf, "ArePossible": impl.ArePossible, "PlainCode": impl.PlainCode, "IsFullCode": impl.IsFullCode,
		"CostOf": impl.CostOf, "BestLengths": impl.BestLengths, "BestCost": impl.BestCost, "EncodeMessage": impl.EncodeMessage,
		"DecodeText": impl.DecodeText, "InOrderCode": impl.InOrderCode, "CountShapes": impl.CountShapes, "BranchesOf": impl.BranchesOf,
		"IsOpenNode": impl.IsOpenNode, "GameWins": impl.GameWins, "OtherWins": impl.OtherWins, "WinningLetters": impl.WinningLetters,
		"FirstWinner": impl.FirstWinner, "PlayLetters": impl.PlayLetters, "CountGames": impl.CountGames, "GameLength": impl.GameLength,
		"FatalWords": impl.FatalWords, "KeyWords": impl.KeyWords, "BestGame": impl.BestGame,
		"IsBook": impl.IsBook, "NewBook": impl.NewBook, "TrieOfBook": impl.TrieOfBook, "DoDeed": impl.DoDeed, "DoDeeds": impl.DoDeeds,
		"IsValidRecord": impl.IsValidRecord, "EncodeRecord": impl.EncodeRecord, "IsValidLog": impl.IsValidLog, "AppendRecord": impl.AppendRecord,
		"SyncLog": impl.SyncLog, "CrashLog": impl.CrashLog, "RecoverLog": impl.RecoverLog, "LogRecords": impl.LogRecords, "NewConsole": impl.NewConsole,
		"IsValidConsole": impl.IsValidConsole, "ExecuteCommand": impl.ExecuteCommand, "RunScript": impl.RunScript, "ReplayLog": impl.ReplayLog,
	}
}

// TestPromise13AllFunctionsAreCalled checks that the list above has each function of the program.
func TestPromise13AllFunctionsAreCalled(t *testing.T) {
	functions := allFunctions()
	files, err := filepath.Glob("../impl/*.go")
	if err != nil || len(files) < 12 {
		t.Fatalf("the files of the program are %q, %v", files, err)
	}
	declared := 0
	for _, name := range files {
		file, err := parser.ParseFile(token.NewFileSet(), name, nil, parser.SkipObjectResolution)
		if err != nil {
			t.Fatal(err)
		}
		for _, d := range file.Decls {
			f, isFunction := d.(*ast.FuncDecl)
			if !isFunction || f.Recv != nil || !f.Name.IsExported() {
				continue
			}
			declared++
			if functions[f.Name.Name] == nil {
				t.Errorf("%s is not called", f.Name.Name)
			}
		}
	}
	if declared != len(functions) {
		t.Errorf("%d functions are declared, and %d are called", declared, len(functions))
	}
}

// few returns some of the values of a map, always the same ones; but none that take long to copy.
func few[T any](values map[string]T, isLong func(T) bool) []any {
	list := []any{}
	for _, name := range slices.Sorted(maps.Keys(values)) {
		if !isLong(values[name]) {
			list = append(list, values[name])
		}
	}
	return list
}

// anyOf returns the values of a list as those of any type.
func anyOf[T any](list ...T) []any {
	values := []any{}
	for _, value := range list {
		values = append(values, value)
	}
	return values
}

// argumentsOf has for each type values that are valid and others: the edges, and extremes.
func argumentsOf() map[reflect.Type][]any {
	lists := [][]string{
		nil, {}, {""}, {"a"}, {"b", "ab", "a", "b"}, {"ab", "abc", "b"}, {"A", "a"}, {"0", "10", "11"}, {"0", "01"}, {"10", "0", "11", ""}, {"1"}, {"a,b"}, {"\xff"},
		manyWords(impl.MaxWords), manyWords(impl.MaxWords + 1), chainWords(13), make([]string, 1000), {strings.Repeat("a", 5000)}, chainCode(12),
	}
	texts := []string{
		"", "a", "b", "ab", "abc", "ba", "aba", "abcbab", "z", "A", "a b", "a*", "?", "*?b", "0", "1", "10", "101101", "-12", "01", "a#385", "#", "@", ",", ".", "(a.b.)", "(a(b.(c.))b.)",
		"(ab.(c.),b.)", "(ab.(c.)b.)", "count", "add a", "down a", "count\nat\n\nadd b", fullRow("a"), fullRow("ab") + "a", strings.Repeat("a", 60), strings.Repeat("ab", 30) + "a",
		strings.Repeat("a", 4000), strings.Repeat("b", 4001), strings.Repeat("a", 30001), "\x00", "\xff", "\u00e9", "\n", " ", plainEncoding(0, longRecord()),
	}
	tries := few(badTries(), func(t impl.Trie) bool { return len(t.Nodes) > 2000 })
	trees := few(badPressed(), func(p impl.Pressed) bool { return len(p.Branches) > 2000 })
	machines := few(badMachines(), func(m impl.Machine) bool { return len(m.States) > 2000 })
	for _, set := range append(edgeSets(), fullRows("ab", 5), pairWords(20), deepChoices(), fullForks()) {
		// The good ones are twice as many as the bad ones, so that all arguments of a call are valid often.
		for range 4 {
			tries, trees, machines = append(tries, plainTrie(set)), append(trees, plainPressed(set)), append(machines, plainMachine(set))
		}
	}
	books := few(badBooks(), func(b impl.Book) bool { return len(b.Words) > 2000 })
	logs := few(badLogs(), func(l impl.Log) bool { return false })
	consoles := []any{impl.Console{Book: impl.Book{Words: "b a"}}, impl.Console{Log: impl.Log{Count: 1}}}
	for i, p := range edgeBooks() {
		l := plainLog(someRecords(i%41), i%5)
		books, logs, consoles = append(books, p.book()), append(logs, l), append(consoles, impl.Console{Book: p.book(), Log: l})
	}
	deeds := someDeeds()
	values := [][]any{
		anyOf(false, true), anyOf(texts...), anyOf(lists...), tries, trees, machines, books, logs, consoles, anyOf(deeds...), anyOf(append(badRecords(), someRecords(9)...)...),
		anyOf(0, 1, 2, 3, 4, 5, 6, 7, 11, 12, 13, 25, 26, 27, 39, 40, 41, 480, 481, 1000, 999999, 1000000, -1, -2, -999999, -1000000, 1<<32, -1<<32, math.MinInt, math.MaxInt),
		anyOf([]int(nil), []int{}, []int{0}, []int{1}, []int{1, 1}, []int{1, 2, 2}, []int{5, 1, 1}, []int{0, 2, 1}, []int{2, 1}, []int{3, 3, 3}, []int{-1}, []int{math.MaxInt, 1},
			[]int{math.MinInt}, []int{12}, []int{1000, 1, 999}, sameNumbers(3, 8), sameNumbers(1000, 12), sameNumbers(12, 12), countUp(12), countUp(13), make([]int, 1000)),
		anyOf([]impl.Deed(nil), []impl.Deed{}, deeds, deeds[:3], []impl.Deed{{Kind: impl.DeedAdd, Word: "c"}, {Kind: impl.DeedDown, Word: "c"}, {Kind: impl.DeedTop}, {}}),
	}
	byType := map[reflect.Type][]any{}
	for _, list := range values {
		byType[reflect.TypeOf(list[0])] = list
	}
	return byType
}

// withRoom returns a copy of a list that shares no memory with it, with room behind it.
func withRoom[E any](list []E, behind E) []E {
	if list == nil {
		return nil
	}
	return append(slices.Clone(list), behind, behind)[:len(list)]
}

// copyOf returns a copy of an argument that shares no memory with it, with room behind its lists.
func copyOf(argument any) any {
	switch v := argument.(type) {
	case impl.Trie:
		return impl.Trie{Nodes: withRoom(v.Nodes, nodeWith(7, 7, true))}
	case impl.Pressed:
		return impl.Pressed{Branches: withRoom(v.Branches, branchWith("behind", 7, true))}
	case impl.Machine:
		states := withRoom(v.States, stateWith(true))
		for i := range v.States {
			states[i].Edges = withRoom(states[i].Edges, [2]int{7, 7})
		}
		return impl.Machine{States: states}
	case []int:
		return withRoom(v, 77)
	case []string:
		return withRoom(v, "behind")
	case []impl.Deed:
		return withRoom(v, impl.Deed{Kind: 7, Word: "behind"})
	}
	return argument
}

// isSameWhole compares two copies of an argument, with what is behind the ends of their lists.
func isSameWhole(a, b any) bool {
	switch v := a.(type) {
	case impl.Trie:
		return isSameList(v.Nodes, b.(impl.Trie).Nodes)
	case impl.Pressed:
		return isSameList(v.Branches, b.(impl.Pressed).Branches)
	case impl.Machine:
		whole, other := wholeOf(v.States), wholeOf(b.(impl.Machine).States)
		return slices.EqualFunc(whole, other, func(s, u impl.State) bool { return s.End == u.End && isSameList(s.Edges, u.Edges) })
	case []int:
		return isSameList(v, b.([]int))
	case []string:
		return isSameList(v, b.([]string))
	case []impl.Deed:
		return isSameList(v, b.([]impl.Deed))
	}
	return a == b
}

func isSameList[E comparable](a, b []E) bool {
	return len(a) == len(b) && slices.Equal(wholeOf(a), wholeOf(b))
}

// wholeOf returns a list with the room behind it; that of copies has two more elements.
func wholeOf[E any](list []E) []E {
	return list[:min(cap(list), len(list)+2)]
}

// hasLists reports whether lists are within the values of a type.
func hasLists(of reflect.Type) bool {
	if of.Kind() != reflect.Struct {
		return of.Kind() == reflect.Slice
	}
	for i := range of.NumField() {
		if hasLists(of.Field(i).Type) {
			return true
		}
	}
	return false
}

// memoryOf adds the first and the last address of each list of a value, with the room behind it.
func memoryOf(v reflect.Value, memory [][2]uintptr) [][2]uintptr {
	switch v.Kind() {
	case reflect.Slice:
		if v.Cap() > 0 {
			memory = append(memory, [2]uintptr{v.Pointer(), v.Pointer() + uintptr(v.Cap())*v.Type().Elem().Size() - 1})
		}
		for i := range v.Len() {
			if !hasLists(v.Type().Elem()) {
				break
			}
			memory = memoryOf(v.Index(i), memory)
		}
	case reflect.Struct:
		for i := range v.NumField() {
			memory = memoryOf(v.Field(i), memory)
		}
	}
	return memory
}

// doShare reports whether two lists of some values have memory in common.
func doShare(values ...reflect.Value) bool {
	memory := [][2]uintptr{}
	for _, v := range values {
		memory = memoryOf(v, memory)
	}
	slices.SortFunc(memory, func(a, b [2]uintptr) int { return slices.Compare(a[:], b[:]) })
	for i := 1; i < len(memory); i++ {
		if memory[i][0] <= memory[i-1][1] {
			return true
		}
	}
	return false
}

// isNothing reports whether a result is a zero value, or one of empty lists.
func isNothing(v reflect.Value) bool {
	switch v.Kind() {
	case reflect.Slice:
		return v.Len() == 0
	case reflect.Struct:
		for i := range v.NumField() {
			if !isNothing(v.Field(i)) {
				return false
			}
		}
		return true
	default:
		return v.IsZero()
	}
}

// doesFail reports whether results are those of a function that fails, but for their values.
func doesFail(results []reflect.Value) bool {
	last := results[len(results)-1]
	return len(results) > 1 && last.Kind() == reflect.Bool && !last.Bool()
}

// callTwice calls a function two times, each time with copies of its arguments, and checks what is
// promised of any function. It reports whether the function failed.
func callTwice(t *testing.T, name string, function any, arguments []any) bool {
	t.Helper()
	defer func() {
		if cause := recover(); cause != nil {
			t.Fatalf("%s(%.200v) panics: %v", name, arguments, cause)
		}
	}()
	given, results := [2][]reflect.Value{}, [2][]reflect.Value{}
	for i := range results {
		for _, v := range arguments {
			given[i] = append(given[i], reflect.ValueOf(copyOf(v)))
		}
		results[i] = reflect.ValueOf(function).Call(given[i])
		for k, v := range arguments {
			if !isSameWhole(given[i][k].Interface(), copyOf(v)) {
				t.Fatalf("%s(%.200v) modifies its arguments", name, arguments)
			}
		}
	}
	for k := range results[0] {
		if !reflect.DeepEqual(results[0][k].Interface(), results[1][k].Interface()) {
			t.Fatalf("%s(%.200v) = %.200v, and then %.200v", name, arguments, results[0], results[1])
		}
	}
	if doShare(slices.Concat(given[0], given[1], results[0], results[1])...) {
		t.Fatalf("%s(%.200v) = %.200v share memory", name, arguments, results[0])
	}
	fails := doesFail(results[0])
	if !fails {
		return false
	}
	for _, v := range results[0] {
		if !isNothing(v) {
			t.Fatalf("%s(%.200v) fails with %.200v", name, arguments, results[0])
		}
	}
	return true
}

// TestPromise13AllFunctionsReturnAndModifyNothing calls each function with many mixed arguments.
func TestPromise13AllFunctionsReturnAndModifyNothing(t *testing.T) {
	const calls = 250
	values, functions := argumentsOf(), allFunctions()
	m := mixed(13)
	for _, name := range slices.Sorted(maps.Keys(functions)) {
		form := reflect.TypeOf(functions[name])
		failed := 0
		for range calls {
			arguments := []any{}
			for i := range form.NumIn() {
				list := values[form.In(i)]
				if len(list) == 0 {
					t.Fatalf("%s: no arguments of type %v", name, form.In(i))
				}
				arguments = append(arguments, list[m.below(len(list))])
			}
			if callTwice(t, name, functions[name], arguments) {
				failed++
			}
		}
		if failed == calls {
			t.Errorf("%s fails for all arguments", name)
		}
	}
}
