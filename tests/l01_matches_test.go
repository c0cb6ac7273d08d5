package tests

import (
	"reflect"
	"slices"
	"strings"
	"testing"

	"loop.example/g01143/impl"
)

// allMatches returns all matches of a term and a word over "ab", by trying all words that occur in it.
func allMatches(term, w string) [][]string {
	words := textsUpTo("ab", len(w))
	words = slices.DeleteFunc(words, func(p string) bool { return !strings.Contains(w, p) })
	slices.Sort(words)
	list := [][]string{{}}
	for _, x := range []string{"X", "Y", "Z", "W"} {
		choices := []string{""}
		if strings.Contains(term, x) {
			choices = words
		}
		var longer [][]string
		for _, begun := range list {
			for _, c := range choices {
				longer = append(longer, append(slices.Clone(begun), c))
			}
		}
		list = longer
	}
	return slices.DeleteFunc(list, func(l []string) bool { return putIn(term, l) != w })
}

func checkMatches(t *testing.T, term, w string, want [][]string) {
	t.Helper()
	got, code := impl.MatchesOf(term, w)
	if code != impl.OK || len(got)+len(want) > 0 && !reflect.DeepEqual(got, want) {
		t.Fatalf("MatchesOf %q, %q: got %q, %d, want %q", term, w, got, code, want)
	}
	first, code := impl.FirstMatch(term, w)
	if len(want) == 0 {
		if len(first) != 0 || code != impl.ErrNotFound {
			t.Fatalf("FirstMatch %q, %q: got %q, %d", term, w, first, code)
		}
	} else if !slices.Equal(first, want[0]) || code != impl.OK {
		t.Fatalf("FirstMatch %q, %q: got %q, %d, want %q", term, w, first, code, want[0])
	}
}

func TestAllMatches(t *testing.T) {
	for _, term := range textsUpTo("abXY", 4) {
		for _, w := range textsUpTo("ab", 3) {
			checkMatches(t, term, w, allMatches(term, w))
		}
	}
	for _, term := range []string{"YX", "YXZ", "ZYX", "WZYX", "XYZW", "ZaZ", "WXWb", "YaXbY"} {
		for _, w := range append(textsUpTo("ab", 2), "aba") {
			checkMatches(t, term, w, allMatches(term, w))
		}
	}
	for _, term := range []string{"YXZ", "ZaX", "YXYZ", "XXY", "YXX"} {
		for _, w := range []string{"babba", "abab", "bbaab"} {
			checkMatches(t, term, w, allMatches(term, w))
		}
	}
}

func TestOrderOfMatches(t *testing.T) {
	list, code := impl.MatchesOf("YXZ", "ba")
	same(t, "words as texts", `[["" "" "ba" ""] ["" "b" "a" ""] ["" "ba" "" ""] ["a" "b" "" ""] ["b" "" "a" ""] ["ba" "" "" ""]] 0`, list, code)
	first, code := impl.FirstMatch("YXXZ", "bbaa")
	same(t, "the first one is not the shortest one", `["" "" "bbaa" ""] 0`, first, code)
	first, code = impl.FirstMatch("WbX", "dbcba")
	same(t, "the later place comes first", `["a" "" "" "dbc"] 0`, first, code)
	list, code = impl.MatchesOf("WbX", "dbcba")
	same(t, "by X and not by places", `[["a" "" "" "dbc"] ["cba" "" "" "d"]] 0`, list, code)
}

func TestMatchEdges(t *testing.T) {
	checkMatches(t, "", "", [][]string{values()})
	checkMatches(t, "", "a", nil)
	checkMatches(t, "a", "", nil)
	checkMatches(t, "abcd", "abcd", [][]string{values()})
	checkMatches(t, "abcd", "abcc", nil)
	checkMatches(t, "XYZW", "", [][]string{values()})
	checkMatches(t, "Wc", "ac", [][]string{values("", "", "", "a")})
	most := strings.Repeat("abcd", 15)
	checkMatches(t, "Z", most, [][]string{values("", "", most)})
	checkMatches(t, strings.Repeat("X", 24), strings.Repeat("ab", 24), [][]string{values("ab")})
	checkMatches(t, strings.Repeat("X", 24), strings.Repeat("ab", 23)+"ba", nil)
	checkMatches(t, strings.Repeat("XY", 12), strings.Repeat("a", 59), nil)
	checkMatches(t, strings.Repeat("a", 24), strings.Repeat("a", 23), nil)
}

func TestMostMatches(t *testing.T) {
	list, code := impl.MatchesOf("XXXXYZ", strings.Repeat("a", 37))
	if len(list) != 200 || code != impl.OK || !slices.IsSortedFunc(list, slices.Compare[[]string]) {
		t.Errorf("just 200 matches: got %d, %d", len(list), code)
	}
	for _, c := range [][]string{{"XXXXYZ", strings.Repeat("a", 38)}, {"XYZ", strings.Repeat("ab", 30)}, {"XYZW", strings.Repeat("a", 60)}, {"XYZWYX", strings.Repeat("d", 60)}} {
		list, code = impl.MatchesOf(c[0], c[1])
		same(t, "more than 200 matches", `[] 3`, list, code)
	}
	first, code := impl.FirstMatch("WZYX", strings.Repeat("ba", 30))
	same(t, "the first one of very many", `["" "" "" "`+strings.Repeat("ba", 30)+`"] 0`, first, code)
	first, code = impl.FirstMatch("XbYZW", strings.Repeat("a", 59)+"b")
	same(t, "the last one of very many", `["`+strings.Repeat("a", 59)+`" "" "" ""] 0`, first, code)
	first, code = impl.FirstMatch("XYZWb", strings.Repeat("a", 60))
	same(t, "none of very many", `[] 6`, first, code)
}

func TestMatchesOfInvalid(t *testing.T) {
	check := func(term, w string) {
		list, code := impl.MatchesOf(term, w)
		same(t, "MatchesOf", `[] 1`, list, code)
		first, code := impl.FirstMatch(term, w)
		same(t, "FirstMatch", `[] 1`, first, code)
	}
	for _, bad := range noWords() {
		check("X", bad)
		check("XYZW", bad)
	}
	for _, bad := range append(noTerms(), strings.Repeat("X", 25)) {
		check(bad, "a")
		check(bad, strings.Repeat("a", 61))
	}
}
