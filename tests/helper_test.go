package tests

import (
	"fmt"
	"strings"
	"testing"
)

// same fails the test unless the results, written one behind the other with their texts quoted, are what is wanted.
func same(t *testing.T, name, want string, results ...any) {
	t.Helper()
	var parts []string
	for _, r := range results {
		switch r.(type) {
		case string, []string, [][]string:
			parts = append(parts, fmt.Sprintf("%q", r))
		default:
			parts = append(parts, fmt.Sprint(r))
		}
	}
	if got := strings.Join(parts, " "); got != want {
		t.Errorf("%s: got %s, want %s", name, got, want)
	}
}

// textsUpTo returns all texts over some signs with at most so many of them, the shorter ones first.
func textsUpTo(signs string, most int) []string {
	list := []string{""}
	for from := 0; most > 0; most-- {
		to := len(list)
		for _, t := range list[from:to] {
			for _, s := range signs {
				list = append(list, t+string(s))
			}
		}
		from = to
	}
	return list
}

// values returns the list of values that begins with some words, the others being empty.
func values(words ...string) []string {
	return append(words, make([]string, 4-len(words))...)
}

// noWords are texts that are no words.
func noWords() []string {
	return append(noTerms(), "X", "aXb", strings.Repeat("a", 61), strings.Repeat("d", 1000000))
}

// noTerms are texts that are neither terms nor words.
func noTerms() []string {
	list := []string{"e", "A", "x", "V", " ", "ab ", "a b", "ab\n", "a\x00", "\xff", "é", "a=b", "0", "`", "aeb"}
	return append(list, strings.Repeat("aX", 31), strings.Repeat("X", 1000000))
}
