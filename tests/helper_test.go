package tests

import (
	"fmt"
	"strings"
	"testing"

	"loop.example/g01143/impl"
)

// same fails the test unless the results, written one behind the other with their texts quoted, are what is wanted.
func same(t *testing.T, name, want string, results ...any) {
	t.Helper()
	var parts []string
	for _, r := range results {
		switch r.(type) {
		case string, []string, [][]string, impl.Equation, []impl.Equation:
			parts = append(parts, fmt.Sprintf("%q", r))
		default:
			parts = append(parts, fmt.Sprint(r))
		}
	}
	if got := strings.Join(parts, " "); got != want {
		t.Errorf("%s: got %s, want %s", name, got, want)
	}
}

// textsUpTo returns all texts over some signs with at most so many of them, the shorter ones first.
func textsUpTo(signs string, most int) []string {
	list := []string{""}
	for from := 0; most > 0; most-- {
		to := len(list)
		for _, t := range list[from:to] {
			for _, s := range signs {
				list = append(list, t+string(s))
			}
		}
		from = to
	}
	return list
}

// values returns the list of values that begins with some words, the others being empty.
func values(words ...string) []string {
	return append(words, make([]string, 4-len(words))...)
}

// noWords are texts that are no words.
func noWords() []string {
	return append(noTerms(), "X", "aXb", strings.Repeat("a", 61), strings.Repeat("d", 1000000))
}

// noTerms are texts that are neither terms nor words.
func noTerms() []string {
	list := []string{"e", "A", "x", "V", " ", "ab ", "a b", "ab\n", "a\x00", "\xff", "é", "a=b", "0", "`", "aeb"}
	return append(list, strings.Repeat("aX", 31), strings.Repeat("X", 1000000))
}

// spoil overwrites all slices of results, with their unused capacity.
func spoil(results []any) {
	for _, r := range results {
		switch r := r.(type) {
		case []int64:
			for i := range r[:cap(r)] {
				r[:cap(r)][i] = -77
			}
		case []string:
			for i := range r[:cap(r)] {
				r[:cap(r)][i] = "spoilt"
			}
		case []impl.Equation:
			for i := range r[:cap(r)] {
				r[:cap(r)][i] = impl.Equation{Left: "spoilt", Right: "spoilt"}
			}
		case []impl.Step:
			for i := range r[:cap(r)] {
				r[:cap(r)][i] = impl.Step{Unknown: -77, By: "spoilt"}
			}
		case []impl.Powers:
			for i := range r[:cap(r)] {
				r[:cap(r)][i] = impl.Powers{Root: "spoilt", Tail: "spoilt", From: -77}
			}
		case []impl.Held:
			for _, h := range r {
				spoil([]any{h.Maps})
			}
			for i := range r[:cap(r)] {
				r[:cap(r)][i] = impl.Held{Equation: impl.Equation{Left: "spoilt", Right: "spoilt"}}
			}
		case []impl.Piece:
			for i := range r[:cap(r)] {
				r[:cap(r)][i] = impl.Piece{Word: "spoilt", Fixed: -77, Slope: -77}
			}
		case impl.Family:
			for _, list := range r.Parts {
				spoil([]any{list})
			}
			clear(r.Parts[:cap(r.Parts)])
		case impl.OneSolutions:
			spoil([]any{r.Words, r.Families})
		case impl.StepGraph:
			spoil([]any{r.Nodes, r.Next})
		case [][]string:
			for _, l := range r {
				spoil([]any{l})
			}
			clear(r[:cap(r)])
		case [][]int64:
			for _, l := range r {
				spoil([]any{l})
			}
			clear(r[:cap(r)])
		}
	}
}

// checkRepeated makes a call twice, spoiling the first results.
func checkRepeated(t *testing.T, name string, call func() []any) {
	t.Helper()
	results := call()
	want := fmt.Sprintf("%#v", results)
	spoil(results)
	if got := fmt.Sprintf("%#v", call()); got != want {
		t.Errorf("%s: %s, and then %s", name, want, got)
	}
}

// withSpare returns a copy of a list with some more elements in its capacity, and all of them.
func withSpare[E any](list []E, more ...E) ([]E, []E) {
	all := append(append([]E{}, list...), more...)
	return all[:len(list)], all
}
