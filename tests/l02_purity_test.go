package tests

import (
	"fmt"
	"reflect"
	"slices"
	"strings"
	"testing"

	"loop.example/g01143/impl"
)

// twoCalls are calls of chapter 2, each of which gives its results as a list.
func twoCalls(list []impl.Equation, e impl.Equation, text string, words []string, numbers []int64, n int64) map[string]func() []any {
	return map[string]func() []any{
		"ValidEquation":    func() []any { return []any{impl.ValidEquation(e)} },
		"ValidSystem":      func() []any { return []any{impl.ValidSystem(list)} },
		"SameSystem":       func() []any { return []any{impl.SameSystem(list, list)} },
		"SystemText":       func() []any { return []any{impl.SystemText(list)} },
		"ReadSystem":       func() []any { a, b := impl.ReadSystem(text); return []any{a, b} },
		"ReadSystem again": func() []any { a, b := impl.ReadSystem(impl.SystemText(list)); return []any{a, b} },
		"Holds":            func() []any { a, b := impl.Holds(list, words); return []any{a, b} },
		"StripEnds":        func() []any { a, b := impl.StripEnds(e); return []any{a, b} },
		"ClashOf":          func() []any { a, b := impl.ClashOf(e); return []any{a, b} },
		"ReplaceIn":        func() []any { a, b := impl.ReplaceIn(list, "X", text); return []any{a, b} },
		"ReplaceIn of it":  func() []any { a, b := impl.ReplaceIn(list, text, "a"); return []any{a, b} },
		"CombineEquations": func() []any { a, b := impl.CombineEquations(e, e); return []any{a, b} },
		"LengthRow":        func() []any { a, b := impl.LengthRow(e); return []any{a, b} },
		"LetterRow":        func() []any { a, b := impl.LetterRow(e, text); return []any{a, b} },
		"LengthLists":      func() []any { a, b := impl.LengthLists(list, n); return []any{a, b} },
		"IsNoProof":        func() []any { a, b := impl.IsNoProof(list, numbers); return []any{a, b} },
		"FindNoProof":      func() []any { a, b := impl.FindNoProof(list); return []any{a, b} },
		"SolveLengths":     func() []any { a, b, c := impl.SolveLengths(list, numbers); return []any{a, b, c} },
		"CountSolutions":   func() []any { a, b := impl.CountSolutions(list, n); return []any{a, b} },
		"LeastSolution":    func() []any { a, b := impl.LeastSolution(list, n); return []any{a, b} },
	}
}

// TestTwoPure calls each function of chapter 2 twice, spoiling the first results, and looks at the arguments with their unused capacity.
func TestTwoPure(t *testing.T) {
	lists := append(goodSystems(), system("aX = Xb"), system("aX = Xb", "Y = cWc"), system("XaY = YaX", "X = XX"), system("Xa = Y", "Z = X", "b = b"), []impl.Equation{{Left: "e"}}, make([]impl.Equation, 5))
	texts := []string{"", "b", "X", "aX", "W", "aX = Xb\n", "e", strings.Repeat("Y", 25)}
	rows := [][]int64{nil, {1, 1, 0, 2}, {0, 1, 0, 0, 0}, {0, 0, 0, 0}, {1, 2, 3, 4, 5, 6, 7, 8, 9, -9}}
	words := [][]string{nil, {"a", "b", "", "ab"}, {"", "", "", ""}, {"X", "", "", ""}}
	for i, list := range lists {
		for k, text := range texts {
			list, listBack := withSpare(list, equation("aX = bX"), equation("e = e"))
			row, rowBack := withSpare(rows[(i+k)%len(rows)], 91, 92, 93)
			v, vBack := withSpare(words[k%len(words)], "x", "y", "z")
			was := []any{slices.Clone(listBack), slices.Clone(rowBack), slices.Clone(vBack)}
			for name, call := range twoCalls(list, listBack[0], text, v, row, int64(k)) {
				checkRepeated(t, fmt.Sprintf("%s of %q, %q", name, list, text), call)
			}
			if !reflect.DeepEqual([]any{listBack, rowBack, vBack}, was) {
				t.Fatalf("of %q, %q, %q, %v: an argument is changed", list, text, v, row)
			}
		}
	}
}

// TestTwoApart looks at the lists of one result, which must not share memory.
func TestTwoApart(t *testing.T) {
	lists, _ := impl.LengthLists(system("XY = YX"), 2)
	want := fmt.Sprint(lists[1:])
	spoil([]any{append(lists[0], 5), lists[0]})
	if got := fmt.Sprint(lists[1:]); got != want || len(lists) != 6 {
		t.Errorf("lists share memory: %s became %s", want, got)
	}
}

// TestTwoReturns gives all functions of chapter 2 very great arguments, and strange ones.
func TestTwoReturns(t *testing.T) {
	long := strings.Repeat("X", 24)
	systems := [][]impl.Equation{nil, make([]impl.Equation, 500000), system(long+" = "+long, "XYZW = WZYX", long+" = "+long, long+" = "+long), {{Left: "\xff"}}, {{Right: strings.Repeat("a", 1000000)}}}
	texts := []string{"", "\x00", strings.Repeat("a", 1000000), strings.Repeat("\n", 1000000), strings.Repeat(" = \n", 1000), strings.Repeat("\xff", 4000)}
	numbers := [][]int64{nil, {12, 12, 12, 12}, make([]int64, 1000000), slices.Repeat([]int64{1 << 62}, 20), {-1 << 63, 1<<63 - 1, 0, 0}}
	for _, list := range systems {
		for i, text := range texts {
			e := impl.Equation{Left: text, Right: long}
			for _, n := range []int64{-1 << 63, 0, 12, 1<<63 - 1} {
				for name, call := range twoCalls(list, e, text, make([]string, 4), numbers[i%len(numbers)], n) {
					if len(call()) == 0 {
						t.Errorf("%s returns nothing", name)
					}
				}
			}
		}
	}
}
