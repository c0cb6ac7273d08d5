package tests

import (
	"fmt"
	"reflect"
	"slices"
	"strings"
	"testing"

	"loop.example/g01143/impl"
)

// oneCalls are calls of chapter 1, each of which gives its results as a list.
func oneCalls(t, w string, list []string, numbers []int64) map[string]func() []any {
	return map[string]func() []any{
		"CodeName":       func() []any { return []any{impl.CodeName(int64(len(t)))} },
		"ValidWord":      func() []any { return []any{impl.ValidWord(w)} },
		"RootOf":         func() []any { a, b, c := impl.RootOf(w); return []any{a, b, c} },
		"Commute":        func() []any { a, b := impl.Commute(t, w); return []any{a, b} },
		"CommonRoot":     func() []any { a, b, c, d := impl.CommonRoot(t, w); return []any{a, b, c, d} },
		"ShiftsOf":       func() []any { a, b := impl.ShiftsOf(w, w); return []any{a, b} },
		"ConjugateParts": func() []any { a, b := impl.ConjugateParts(w, w); return []any{a, b} },
		"ValidTerm":      func() []any { return []any{impl.ValidTerm(t)} },
		"UnknownsOf":     func() []any { a, b := impl.UnknownsOf(t); return []any{a, b} },
		"CountIn":        func() []any { a, b := impl.CountIn(t); return []any{a, b} },
		"ValidValues":    func() []any { return []any{impl.ValidValues(list)} },
		"PutIn":          func() []any { a, b := impl.PutIn(t, list); return []any{a, b} },
		"TermLength":     func() []any { a, b := impl.TermLength(t, numbers); return []any{a, b} },
		"Replace":        func() []any { a, b := impl.Replace(t, "X", w); return []any{a, b} },
		"RenameTerm":     func() []any { a, b := impl.RenameTerm(t, numbers); return []any{a, b} },
		"TurnTerm":       func() []any { a, b := impl.TurnTerm(t); return []any{a, b} },
		"MatchesOf":      func() []any { a, b := impl.MatchesOf(t, w); return []any{a, b} },
		"FirstMatch":     func() []any { a, b := impl.FirstMatch(t, w); return []any{a, b} },
		"IsLinear":       func() []any { a, b := impl.IsLinear(t); return []any{a, b} },
	}
}

// TestOnePure calls each function of chapter 1 twice, spoiling the first results, and looks at the arguments with their unused capacity.
func TestOnePure(t *testing.T) {
	texts := []string{"", "a", "abab", "aXbYX", "XYZW", "WaXa", "e", strings.Repeat("ab", 30), strings.Repeat("X", 24), strings.Repeat("a", 61)}
	lists := [][]string{nil, {"a", "b", "", "ab"}, {"", "", "", ""}, {"a"}, {"X", "", "", ""}}
	rows := [][]int64{nil, {3, 2, 1, 0}, {0, 0, 60, 1}, {0, 1, 2, 3, 4}}
	for i, term := range texts {
		for _, w := range texts {
			list, listBack := withSpare(lists[i%len(lists)], "x", "y", "z")
			row, rowBack := withSpare(rows[i%len(rows)], 91, 92, 93)
			listWas, rowWas := slices.Clone(listBack), slices.Clone(rowBack)
			for name, call := range oneCalls(term, w, list, row) {
				checkRepeated(t, fmt.Sprintf("%s of %q, %q", name, term, w), call)
				if !reflect.DeepEqual(listBack, listWas) || !reflect.DeepEqual(rowBack, rowWas) {
					t.Fatalf("%s of %q, %q changes an argument", name, term, w)
				}
			}
		}
	}
}

// TestOneApart looks at lists of one result that must not share memory.
func TestOneApart(t *testing.T) {
	matches, _ := impl.MatchesOf("XY", "abc")
	parts, _ := impl.ConjugateParts("aaa", "aaa")
	for _, lists := range [][][]string{matches, parts} {
		if len(lists) < 3 {
			t.Fatalf("too few lists: %q", lists)
		}
		want := fmt.Sprintf("%q", lists[1:])
		spoil([]any{append(lists[0], "more")})
		spoil([]any{lists[0]})
		if got := fmt.Sprintf("%q", lists[1:]); got != want {
			t.Errorf("lists share memory: %s became %s", want, got)
		}
	}
}

// TestOneReturns gives all functions of chapter 1 the greatest arguments, and strange ones.
func TestOneReturns(t *testing.T) {
	var texts []string
	for b := range 256 {
		texts = append(texts, string([]byte{byte(b)}), "a"+string([]byte{byte(b)}))
	}
	texts = append(texts, strings.Repeat("a", 1000000), strings.Repeat("\xff", 1000000), strings.Repeat("Xa", 500000))
	long, many := make([]string, 1000000), make([]int64, 1000000)
	for _, s := range texts {
		for _, w := range []string{s, "a"} {
			for name, call := range oneCalls(s, w, long, many) {
				if len(call()) == 0 {
					t.Errorf("%s returns nothing", name)
				}
			}
		}
	}
}
