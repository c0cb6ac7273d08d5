package tests

import (
	"fmt"
	"slices"
	"strings"
	"testing"

	"loop.example/g01143/impl"
)

// manyTails returns families of a root with 60 letters, with the tails of 0, 1 and more letters.
func manyTails(count int, from int64) []impl.Powers {
	root := strings.Repeat("a", 59) + "b"
	var list []impl.Powers
	for n := range count {
		list = append(list, powers(root, root[:n], from))
	}
	return list
}

// goodDescriptions are valid descriptions other than that of every word.
func goodDescriptions() []impl.OneSolutions {
	sixty := strings.Repeat("abc", 20)
	root := sixty[:59] + "d"
	return []impl.OneSolutions{
		{}, described("-"), described("a"), described("- a b ab ba"), described("d aa ab dc aaa"), described(sixty), described("- d " + sixty + " " + root), described(sixty[:59] + " " + sixty),
		// Families that begin at once, later, and at the last place; the empty tail, others, and several of them.
		described("", powers("a", "", 0)), described("", powers("a", "", 1)), described("", powers("a", "", 2)), described("", powers("a", "", 59)), described("", powers("a", "", 60)),
		described("", powers("ab", "", 0)), described("", powers("ab", "a", 0)), described("", powers("ab", "a", 1)), described("", powers("ab", "a", 29)), described("", powers("ab", "", 30)), described("", powers("ab", "a", 30)), described("", powers("ab", "", 31)), described("", powers("ab", "a", 60)),
		described("", powers("aab", "", 2), powers("aab", "a", 0), powers("aab", "aa", 1)), described("", powers("aab", "", 0), powers("aab", "aa", 60)), described("", powers("abb", "a", 7), powers("abb", "ab", 3)),
		described("", powers(root, "", 0)), described("", powers(root, "", 1)), described("", powers(root, root[:59], 0)), described("", powers(root, root[:59], 1)), described("", powers(root, "", 60)), described("", powers(root, "a", 1), powers(root, "ab", 1)), described("", powers(sixty[:20], "", 3)), described("", powers(sixty[:20], "a", 3)),
		// Words beside families, also such as begin like them, or are as long.
		described("b", powers("a", "", 0)), described("b", powers("a", "", 1)), described("a", powers("a", "", 3)), described("- a aaa", powers("a", "", 5)), described("b aa ba", powers("a", "", 4)), described("- ba", powers("ab", "", 2)), described("- aba", powers("ab", "", 2), powers("ab", "a", 3)),
		described("b ab ba", powers("ab", "a", 0)), described("a", powers("ab", "", 0)), described("ab", powers("ab", "a", 0)), described("aab aabaa", powers("aab", "a", 0)), described("- c abab", powers("abc", "", 3), powers("abc", "ab", 1)), described("b", powers("ab", "", 60)), described(sixty, powers("a", "", 60)), described("a", powers(root, "", 60)),
		{Families: manyTails(40, 0)}, {Families: manyTails(40, 1)}, {Words: []string{"b"}, Families: manyTails(40, 60)}, {Families: manyTails(60, 0)[20:]},
	}
}

// badDescriptions are descriptions that are not valid, each for a reason.
func badDescriptions() map[string][]impl.OneSolutions {
	sixty := strings.Repeat("abc", 20)
	bad := map[string][]impl.OneSolutions{
		"lists beside every":    {{Every: true, Words: []string{""}}, {Every: true, Words: []string{"ab"}}, {Every: true, Families: []impl.Powers{powers("a", "", 0)}}, {Every: true, Words: []string{"b"}, Families: []impl.Powers{powers("a", "", 1)}}, {Every: true, Words: []string{"e"}}, {Every: true, Families: make([]impl.Powers, 1)}},
		"words do not increase": {described("a a"), described("- -"), described("b a"), described("ab b"), described("aa b"), described("a -"), described("a b ab aa"), described("a aa b"), described("a b c d c"), described(sixty + " " + sixty), described("a a", powers("b", "", 0))},
		"no root":               {described("", powers("", "", 0)), described("", powers("", "a", 0)), described("", powers("aa", "", 0)), described("", powers("aa", "a", 0)), described("", powers("abab", "ab", 1)), described("", powers(sixty, "", 0)), described("", powers(sixty+"a", "", 0)), described("", powers(strings.Repeat("a", 60), "", 0)), described("", powers("a", "", 0), powers("aa", "a", 0))},
		"no tail":               {described("", powers("a", "a", 0)), described("", powers("ab", "ab", 0)), described("", powers("ab", "b", 0)), described("", powers("ab", "aba", 0)), described("", powers("ab", "X", 0)), described("", powers("aab", "ab", 0)), described("", powers("ab", "", 0), powers("ab", "ab", 0)), described("", powers("ab", "abab", 0)), described("", powers("ab", "A", 0)), described("", powers("ab", " ", 0))},
		"no from":               {described("", powers("a", "", -1)), described("", powers("ab", "a", 61)), described("", powers("a", "", 61)), described("", powers("ab", "", -1<<63)), described("", powers("ab", "", 1<<63-1)), described("", powers("ab", "", 60), powers("ab", "a", 61)), described("b", powers("ab", "", -1))},
		"other roots":           {described("", powers("a", "", 0), powers("ab", "a", 0)), described("", powers("ab", "", 0), powers("aba", "ab", 0)), described("", powers("ab", "", 0), powers("abc", "ab", 0)), described("", powers("aab", "", 0), powers("aab", "a", 0), powers("aac", "aa", 0))},
		"tails do not increase": {described("", powers("ab", "a", 0), powers("ab", "", 0)), described("", powers("ab", "a", 0), powers("ab", "a", 0)), described("", powers("ab", "", 0), powers("ab", "", 1)), described("", powers("aab", "", 0), powers("aab", "aa", 0), powers("aab", "a", 0)), described("", powers("ab", "", 3), powers("ab", "", 2))},
		"words of a family": {
			described("-", powers("a", "", 0)), described("a", powers("a", "", 0)), described("aaaa", powers("a", "", 0)), described("a", powers("ab", "a", 0)), described("aba", powers("ab", "a", 0)), described("- b ab", powers("ab", "", 0)),
			described("aa", powers("a", "", 2)), described("c aaa", powers("a", "", 2)), described("b abcabcab", powers("abc", "", 0), powers("abc", "ab", 2)), described(strings.Repeat("a", 60), powers("a", "", 60)), described(sixty, powers("abc", "", 20)), described(sixty, powers("abc", "", 0)),
		},
		"words just in front of a family": {
			described("-", powers("a", "", 1)), described("a", powers("a", "", 2)), described("a", powers("ab", "a", 1)), described("b ababa", powers("ab", "a", 3)), described("abcab", powers("abc", "", 0), powers("abc", "ab", 2)), described("- a", powers("ab", "", 1)), described("- a", powers("ab", "", 5), powers("ab", "a", 1)),
			described(strings.Repeat("a", 59), powers("a", "", 60)), described(sixty, powers("abc", "", 21)),
		},
		"too many families": {{Families: manyTails(41, 0)}, {Families: manyTails(60, 1)}, {Families: make([]impl.Powers, 200000)}, {Families: slices.Repeat(manyTails(1, 0), 200000)}},
	}
	for _, w := range noWords() {
		bad["no words"] = append(bad["no words"], impl.OneSolutions{Words: []string{w}}, impl.OneSolutions{Words: []string{"", "a", w}}, impl.OneSolutions{Words: []string{w}, Families: manyTails(2, 0)})
		bad["no root"] = append(bad["no root"], described("", powers(w, "", 0)), described("", powers("b"+w, "b", 0)))
		bad["no tail"] = append(bad["no tail"], described("", powers("ab", w, 0)))
	}
	return bad
}

func TestValidSolutions(t *testing.T) {
	for _, x := range append(goodDescriptions(), every(), impl.OneSolutions{Every: true, Words: []string{}, Families: []impl.Powers{}}, impl.OneSolutions{Words: []string{}, Families: []impl.Powers{}}) {
		if !impl.ValidSolutions(x) || !isValidByHand(x) {
			t.Errorf("%.200s is not valid", told(x))
		}
	}
	for reason, list := range badDescriptions() {
		for i, x := range list {
			if impl.ValidSolutions(x) {
				t.Errorf("%s, case %d, is valid", reason, i)
			}
		}
	}
}

// TestValidSolutionsAll looks at all descriptions that can be made of a few parts.
func TestValidSolutionsAll(t *testing.T) {
	words := [][]string{nil}
	for _, text := range []string{"-", "a", "b", "aa", "ab", "aba", "abab"} {
		for _, list := range words {
			words = append(words, append(slices.Clone(list), strings.Trim(text, "-")))
		}
	}
	words = append(words, []string{"a", ""}, []string{"a", "a"}, []string{"aba", "abab", "aa"})
	families := []impl.Powers{powers("a", "", 0), powers("a", "", 1), powers("a", "", 3), powers("ab", "", 0), powers("ab", "", 1), powers("ab", "", 2), powers("ab", "", 3), powers("ab", "a", 0), powers("ab", "a", 1), powers("ab", "a", 2), powers("aba", "ab", 0), powers("aba", "ab", 1), powers("aa", "", 0)}
	lists := [][]impl.Powers{nil}
	for _, f := range families {
		lists = append(lists, []impl.Powers{f})
		for _, g := range families {
			lists = append(lists, []impl.Powers{f, g})
		}
	}
	for _, w := range words {
		for _, f := range lists {
			x := impl.OneSolutions{Words: w, Families: f}
			if got := impl.ValidSolutions(x); got != isValidByHand(x) {
				t.Errorf("%q, %v is valid: %v", w, f, got)
			}
		}
	}
}

// TestInvalidDescriptions gives descriptions that are not valid to all functions, beside other errors.
func TestInvalidDescriptions(t *testing.T) {
	for reason, list := range badDescriptions() {
		for i, x := range list {
			name := fmt.Sprintf("%s, case %d", reason, i)
			for _, w := range []string{"", "ab", "e", strings.Repeat("a", 61)} {
				has, code := impl.HasSolution(x, w)
				same(t, "HasSolution, "+name, `false 1`, has, code)
			}
			for _, n := range []int64{-1, 0, 60, 61} {
				w, code := impl.SolutionOfLength(x, n)
				same(t, "SolutionOfLength, "+name, `"" 1`, w, code)
				count, code := impl.CountWords(x, n)
				same(t, "CountWords, "+name, `0 1`, count, code)
			}
			w, code := impl.FirstSolution(x)
			same(t, "FirstSolution, "+name, `"" 1`, w, code)
		}
	}
}

func TestSameSolutions(t *testing.T) {
	list := append(goodDescriptions(), every(), described("a a"), described("b a"), described("e"), described("", powers("", "", 0)), described("", powers("ab", "b", -1)), described("", powers("ab", "", 0), powers("ab", "", 0)),
		described("", powers("b", "", 0)), impl.OneSolutions{Every: true, Words: []string{"a"}}, impl.OneSolutions{Every: true, Families: []impl.Powers{powers("a", "", 0)}}, described("- -"), described("a", powers("ab", "", 0), powers("ab", "", 0)))
	for i, x := range list {
		for k, y := range list {
			copied := impl.OneSolutions{Every: y.Every, Words: append([]string{}, y.Words...), Families: append([]impl.Powers{}, y.Families...)}
			if got := impl.SameSolutions(x, copied); got != (i == k) {
				t.Errorf("SameSolutions of %d, %.99s and %d, %.99s: got %v", i, told(x), k, told(y), got)
			}
		}
	}
	if !impl.SameSolutions(impl.OneSolutions{}, impl.OneSolutions{Words: []string{}, Families: []impl.Powers{}}) {
		t.Error("a nil list and an empty one differ")
	}
}

func TestAskedDescriptions(t *testing.T) {
	for _, x := range goodDescriptions() {
		checkAsked(t, x)
		for _, w := range append(textsUpTo("abcd", 3), textsUpTo("ab", 6)...) {
			has, code := impl.HasSolution(x, w)
			if has != slices.Contains(wordsByHand(x, len(w)), w) || code != impl.OK {
				t.Errorf("HasSolution of %.99s and %q: got %v, %d", told(x), w, has, code)
			}
		}
	}
}

// TestHasSolutionEdges looks at the beginnings of families, and at the longest words.
func TestHasSolutionEdges(t *testing.T) {
	sixty := strings.Repeat("ab", 30)
	root := strings.Repeat("a", 59) + "b"
	cases := []struct {
		x    impl.OneSolutions
		w    string
		want string
	}{
		{described("", powers("ab", "a", 0)), "", `false 0`}, {described("", powers("ab", "a", 0)), "a", `true 0`}, {described("", powers("ab", "a", 1)), "a", `false 0`}, {described("", powers("ab", "a", 1)), "aba", `true 0`}, {described("", powers("ab", "a", 2)), "aba", `false 0`}, {described("", powers("ab", "a", 2)), "ababa", `true 0`},
		{described("", powers("ab", "", 0)), "", `true 0`}, {described("", powers("ab", "", 1)), "", `false 0`}, {described("a", powers("a", "", 3)), "aa", `false 0`}, {described("a", powers("a", "", 3)), "a", `true 0`}, {described("a", powers("a", "", 3)), "aaa", `true 0`},
		{described("", powers("ab", "", 30)), sixty, `true 0`}, {described("", powers("ab", "", 31)), sixty, `false 0`}, {described("", powers("ab", "", 0)), sixty[1:] + "b", `false 0`}, {described("", powers("ab", "a", 0)), sixty[1:], `false 0`}, {described("", powers("ab", "a", 0)), sixty[:59], `true 0`},
		{described("", powers("a", "", 60)), root[:59] + "a", `true 0`}, {described("", powers("a", "", 60)), root[:59], `false 0`}, {described("", powers(root, "", 1)), root, `true 0`}, {described("", powers(root, root[:59], 0)), root[:59], `true 0`}, {described("", powers(root, root[:59], 1)), root[:59], `false 0`},
		{described(sixty), sixty, `true 0`}, {described(sixty), sixty + "a", `false 1`}, {described("", powers("ab", "", 0)), sixty + "ab", `false 1`}, {every(), sixty + "a", `false 1`}, {every(), sixty, `true 0`}, {every(), "", `true 0`}, {every(), "dcba", `true 0`}, {every(), "X", `false 1`},
		{impl.OneSolutions{}, "", `false 0`}, {impl.OneSolutions{}, "a", `false 0`}, {impl.OneSolutions{}, strings.Repeat("a", 61), `false 1`}, {described("-"), "", `true 0`}, {described("-"), "a", `false 0`},
	}
	for _, c := range cases {
		has, code := impl.HasSolution(c.x, c.w)
		same(t, fmt.Sprintf("HasSolution of %s and %s", told(c.x), c.w), c.want, has, code)
	}
	for _, w := range noWords() {
		for _, x := range []impl.OneSolutions{{}, every(), described("- a", powers("ab", "", 3))} {
			has, code := impl.HasSolution(x, w)
			same(t, "HasSolution of no word", `false 1`, has, code)
		}
	}
}

func TestSolutionOfLengthEdges(t *testing.T) {
	sixty := strings.Repeat("a", 60)
	cases := []struct {
		x    impl.OneSolutions
		n    int64
		want string
	}{
		{every(), 0, `"" 0`}, {every(), 3, `"aaa" 0`}, {every(), 60, `"` + sixty + `" 0`}, {every(), -1, `"" 2`}, {every(), 61, `"" 2`}, {impl.OneSolutions{}, 0, `"" 6`}, {impl.OneSolutions{}, 60, `"" 6`}, {impl.OneSolutions{}, 61, `"" 2`},
		{described("-"), 0, `"" 0`}, {described("-"), 1, `"" 6`}, {described("b c"), 1, `"b" 0`}, {described("b", powers("a", "", 1)), 1, `"a" 0`}, {described("a", powers("b", "", 3)), 1, `"a" 0`}, {described("aaa", powers("b", "", 3)), 3, `"aaa" 0`}, {described("ccc", powers("b", "", 3)), 3, `"bbb" 0`},
		{described("", powers("a", "", 60)), 60, `"` + sixty + `" 0`}, {described("", powers("a", "", 60)), 59, `"" 6`}, {described("", powers("a", "", 60)), 61, `"" 2`}, {described("", powers("ab", "a", 2)), 3, `"" 6`}, {described("", powers("ab", "a", 2)), 5, `"ababa" 0`}, {described("", powers("ab", "a", 2)), 6, `"" 6`},
		{described("a"), -1 << 63, `"" 2`}, {described("a"), 1<<63 - 1, `"" 2`}, {described(sixty), 60, `"` + sixty + `" 0`},
	}
	for _, c := range cases {
		w, code := impl.SolutionOfLength(c.x, c.n)
		same(t, fmt.Sprintf("SolutionOfLength of %s and %d", told(c.x), c.n), c.want, w, code)
	}
}

func TestFirstSolutionEdges(t *testing.T) {
	root := strings.Repeat("a", 59) + "b"
	cases := []struct {
		x    impl.OneSolutions
		want string
	}{
		{every(), `"" 0`}, {impl.OneSolutions{}, `"" 6`}, {described("-"), `"" 0`}, {described("d aa"), `"d" 0`}, {described("", powers("ab", "", 0)), `"" 0`}, {described("", powers("ab", "", 1)), `"ab" 0`}, {described("", powers("ab", "a", 2)), `"ababa" 0`},
		{described("d", powers("ab", "a", 0)), `"a" 0`}, {described("a", powers("d", "", 3)), `"a" 0`}, {described("b", powers("a", "", 1)), `"a" 0`}, {described("dddd", powers("ab", "", 2)), `"abab" 0`}, {described("aaaa", powers("ab", "", 2)), `"aaaa" 0`},
		{described("", powers("aab", "", 2), powers("aab", "a", 1), powers("aab", "aa", 3)), `"aaba" 0`}, {described("", powers("aab", "", 60), powers("aab", "aa", 1)), `"aabaa" 0`},
		{described("", powers("a", "", 60)), `"` + strings.Repeat("a", 60) + `" 0`}, {described("", powers("ab", "", 30)), `"` + strings.Repeat("ab", 30) + `" 0`}, {described("", powers("ab", "a", 30)), `"" 3`}, {described("", powers("ab", "", 31)), `"" 3`}, {described("", powers("ab", "", 60)), `"" 3`},
		{described("", powers(root, "", 1)), `"` + root + `" 0`}, {described("", powers(root, "a", 1)), `"" 3`}, {described("", powers(root, root[:59], 60)), `"" 3`}, {described(root, powers(root, "", 60)), `"` + root + `" 0`}, {described("", powers("ab", "", 31), powers("ab", "a", 30)), `"" 3`}, {described("", powers("ab", "", 31), powers("ab", "a", 29)), `"` + strings.Repeat("ab", 29) + `a" 0`},
	}
	for _, c := range cases {
		w, code := impl.FirstSolution(c.x)
		same(t, "FirstSolution of "+told(c.x), c.want, w, code)
	}
}

func TestCountWordsEdges(t *testing.T) {
	cases := []struct {
		x    impl.OneSolutions
		n    int64
		want string
	}{
		{every(), 0, `0 4`}, {every(), 60, `0 4`}, {every(), -1, `0 2`}, {every(), 61, `0 2`}, {impl.OneSolutions{}, 0, `0 0`}, {impl.OneSolutions{}, 60, `0 0`}, {impl.OneSolutions{}, -1, `0 2`}, {impl.OneSolutions{}, 61, `0 2`}, {described("-"), 0, `1 0`}, {described("a b"), 0, `0 0`}, {described("a b ab"), 1, `2 0`},
		{described("", powers("a", "", 0)), 60, `61 0`}, {described("", powers("a", "", 60)), 60, `1 0`}, {described("", powers("a", "", 60)), 59, `0 0`}, {described("", powers("ab", "a", 0)), 5, `3 0`}, {described("", powers("ab", "a", 1)), 5, `2 0`}, {described("", powers("ab", "a", 0)), 0, `0 0`}, {described("", powers("abc", "ab", 60)), 60, `0 0`},
		{described("b cc", powers("a", "", 2)), 3, `4 0`}, {impl.OneSolutions{Families: manyTails(40, 0)}, 60, `41 0`}, {described("a"), 1<<63 - 1, `0 2`}, {described("a"), -1 << 63, `0 2`},
	}
	for _, c := range cases {
		count, code := impl.CountWords(c.x, c.n)
		same(t, fmt.Sprintf("CountWords of %.99s and %d", told(c.x), c.n), c.want, count, code)
	}
}
