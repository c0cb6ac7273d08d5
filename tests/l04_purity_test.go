package tests

import (
	"fmt"
	"reflect"
	"slices"
	"strings"
	"testing"

	"loop.example/g01143/impl"
)

// fourCalls are calls of chapter 4, each of which gives its results as a list.
func fourCalls(u, v, w string, pairs [][]string, x impl.OneSolutions, n int64) map[string]func() []any {
	return map[string]func() []any{
		"SolvesOne":        func() []any { a, b := impl.SolvesOne(u, v, w); return []any{a, b} },
		"CancelEnds":       func() []any { a, b, c := impl.CancelEnds(u, v); return []any{a, b, c} },
		"ExcessOf":         func() []any { a, b, c := impl.ExcessOf(u, v); return []any{a, b, c} },
		"SolveOne":         func() []any { a, b := impl.SolveOne(u, v); return []any{a, b} },
		"SolveAll":         func() []any { a, b := impl.SolveAll(pairs); return []any{a, b} },
		"KindOfOne":        func() []any { a, b := impl.KindOfOne(u, v); return []any{a, b} },
		"ValidSolutions":   func() []any { return []any{impl.ValidSolutions(x)} },
		"SameSolutions":    func() []any { y, _ := impl.SolveOne(u, v); return []any{impl.SameSolutions(x, y)} },
		"HasSolution":      func() []any { a, b := impl.HasSolution(x, w); return []any{a, b} },
		"SolutionOfLength": func() []any { a, b := impl.SolutionOfLength(x, n); return []any{a, b} },
		"FirstSolution":    func() []any { a, b := impl.FirstSolution(x); return []any{a, b} },
		"CountWords":       func() []any { a, b := impl.CountWords(x, n); return []any{a, b} },
		"CommutingWith":    func() []any { a, b := impl.CommutingWith(w); return []any{a, b} },
		"ShiftingTo":       func() []any { a, b := impl.ShiftingTo(w, w); return []any{a, b} },
		"ShiftingTo other": func() []any { a, b := impl.ShiftingTo(u, v); return []any{a, b} },
	}
}

// TestFourPure calls each function of chapter 4 twice, spoiling the first results, and looks at the arguments with their unused capacity.
func TestFourPure(t *testing.T) {
	terms := append(pairsOf("Xab = abX", "Xba = abX", "XaXbab = abaXbX", "aX = aX", "XX = abXab", "ab = ba", "ba = ab", "XY = a"), []string{"X", "e"}, []string{strings.Repeat("a", 25), "X"})
	descriptions := append(goodDescriptions(), every(), described("b a a"), described("a", powers("a", "", 1)), described("", powers("ab", "a", 0), powers("ab", "", 0)), impl.OneSolutions{Every: true, Words: []string{"b", "a"}})
	for i, p := range terms {
		for k, x := range descriptions {
			words, wordsBack := withSpare(x.Words, "z", "a")
			families, familiesBack := withSpare(x.Families, powers("z", "y", 7))
			first, firstBack := withSpare(p, "z")
			pairs, pairsBack := withSpare([][]string{first, terms[k%len(terms)]}, terms[0], nil)
			pairsWas := []any{fmt.Sprintf("%q", pairsBack), slices.Clone(firstBack)}
			was := []any{slices.Clone(wordsBack), slices.Clone(familiesBack)}
			w := []string{"", "ab", "aba", "e", strings.Repeat("ab", 31)}[(i+k)%5]
			for name, call := range fourCalls(p[0], p[1], w, pairs, impl.OneSolutions{Every: x.Every, Words: words, Families: families}, int64(k*2-1)) {
				checkRepeated(t, fmt.Sprintf("%s of %q, %q, %.99s", name, p, w, told(x)), call)
			}
			if !reflect.DeepEqual([]any{wordsBack, familiesBack}, was) || !reflect.DeepEqual([]any{fmt.Sprintf("%q", pairsBack), slices.Clone(firstBack)}, pairsWas) {
				t.Fatalf("of %q, %q, %.99s: an argument is changed", p, w, told(x))
			}
		}
	}
}

// TestFourReturns gives all functions of chapter 4 very great arguments, and strange ones.
func TestFourReturns(t *testing.T) {
	very, long := strings.Repeat("a", 1000000), strings.Repeat("X", 24)
	texts := []string{"", "X", "a", "\xff", "\x00", long, long[1:] + "a", "a" + long[1:], very, strings.Repeat("X", 1000000), strings.Repeat("ab", 30), "Y"}
	var words []string
	for _, w := range textsUpTo("abcd", 9) {
		words = append(words, w+"d")
	}
	descriptions := []impl.OneSolutions{
		{}, every(), {Words: make([]string, 1000000)}, {Families: make([]impl.Powers, 300000)}, {Words: []string{very}}, {Families: []impl.Powers{{Root: very, Tail: very, From: 1<<63 - 1}}},
		{Words: words}, {Words: words, Families: manyTails(40, 60)}, {Every: true, Words: words}, described("", powers("a", "", 60)), described("", powers("a", "", -1<<63)), described("", powers(long, "", 0)),
	}
	for i, u := range texts {
		for k, v := range texts {
			lists := [][][]string{nil, make([][]string, 100000), {{u, v}}, {{u, v}, {v, u}, {u, u}, {v, v}}, {{u, v, u}}, {make([]string, 100000)}}
			n := []int64{-1 << 63, 0, 60, 1<<63 - 1}[(i+k)%4]
			for name, call := range fourCalls(u, v, texts[(i+2*k)%len(texts)], lists[(i+k)%len(lists)], descriptions[(i*len(texts)+k)%len(descriptions)], n) {
				if len(call()) == 0 {
					t.Errorf("%s returns nothing", name)
				}
			}
		}
	}
}
