package tests

import (
	"fmt"
	"math"
	"slices"
	"strings"
	"testing"

	"loop.example/g01143/impl"
)

// sevenCalls are calls of chapter 7, each of which gives its results as a list.
func sevenCalls(set []string, w string, list []int64, f, g []string, letters, length int64) map[string]func() []any {
	return map[string]func() []any{
		"ValidSet":       func() []any { return []any{impl.ValidSet(set)} },
		"IsPrefixFree":   func() []any { a, c := impl.IsPrefixFree(set); return []any{a, c} },
		"IsSuffixFree":   func() []any { a, c := impl.IsSuffixFree(set); return []any{a, c} },
		"IsCode":         func() []any { a, c := impl.IsCode(set); return []any{a, c} },
		"FirstTwice":     func() []any { a, b, d, c := impl.FirstTwice(set); return []any{a, b, d, c} },
		"CountDecodings": func() []any { a, c := impl.CountDecodings(set, w); return []any{a, c} },
		"DecodingsOf":    func() []any { a, c := impl.DecodingsOf(set, w); return []any{a, c} },
		"DecodedWord":    func() []any { a, c := impl.DecodedWord(set, list); return []any{a, c} },
		"KraftOf":        func() []any { a, b, c := impl.KraftOf(set, letters); return []any{a, b, c} },
		"HullOf":         func() []any { a, c := impl.HullOf(set); return []any{a, c} },
		"RankOf":         func() []any { a, c := impl.RankOf(set); return []any{a, c} },
		"InHull":         func() []any { a, c := impl.InHull(set, w); return []any{a, c} },
		"ValidImages":    func() []any { return []any{impl.ValidImages(f)} },
		"ApplyImages":    func() []any { a, c := impl.ApplyImages(f, w); return []any{a, c} },
		"ComposeImages":  func() []any { a, c := impl.ComposeImages(f, g); return []any{a, c} },
		"IsInjective":    func() []any { a, c := impl.IsInjective(f, letters); return []any{a, c} },
		"OverhangOf":     func() []any { a, b, c := impl.OverhangOf(f, g, w); return []any{a, b, c} },
		"EqualTo":        func() []any { a, c := impl.EqualTo(f, g, letters, length); return []any{a, c} },
		"PrimesTo":       func() []any { a, c := impl.PrimesTo(f, g, letters, length); return []any{a, c} },
	}
}

// TestSevenPure calls each function of chapter 7 twice, spoiling the first results, and looks at the arguments with their unused capacity.
func TestSevenPure(t *testing.T) {
	sets := append(longSets()[:40], badSets()[:16]...)
	for i, set := range shortSets() {
		if i%25 == 0 {
			sets = append(sets, set)
		}
	}
	images := append(fewImages(), badImages()[:6]...)
	words := []string{"", "aba", "abab", "aabab", "abbab", "cab", longElement, "e", sixty}
	lists := [][]int64{nil, {0}, {0, 1, 0}, {2, 1, 0, 3}, {-1}, {1, 9}}
	for i, own := range sets {
		set, setBack := withSpare(own, "zz", "y")
		list, listBack := withSpare(lists[i%len(lists)], 7, 8)
		f, fBack := withSpare(images[i%len(images)], "x")
		g, gBack := withSpare(images[(i/2+i*7)%len(images)], "u", "v")
		was := func() string { return fmt.Sprintf("%q %v %q %q", setBack, listBack, fBack, gBack) }
		before := was()
		for k, w := range words {
			for name, call := range sevenCalls(set, w, list, f, g, int64((i+k)%5), int64(k%6-1)) {
				checkRepeated(t, fmt.Sprintf("%s of %q, %q, %v, %q, %q", name, own, w, list, f, g), call)
			}
		}
		if was() != before {
			t.Fatalf("of %q, %q, %q: an argument is changed: %s became %s", own, f, g, before, was())
		}
	}
}

// TestSevenApart looks at lists of one result that must not share memory.
func TestSevenApart(t *testing.T) {
	check := func(lists ...[]int64) {
		t.Helper()
		for i := range lists {
			want := fmt.Sprint(lists[i+1:])
			longer := append(lists[i], -9)
			spoil([]any{lists[i], longer})
			if got := fmt.Sprint(lists[i+1:]); got != want {
				t.Errorf("lists share memory: %s became %s", want, got)
			}
		}
	}
	for _, set := range [][]string{{"a", "ab", "ba"}, {"a", "aa"}, powersOf("a", 1, 2, 3, 4), {"aa", "aaa"}} {
		_, first, second, _ := impl.FirstTwice(set)
		check(first, second)
		list, _ := impl.DecodingsOf(set, strings.Repeat("a", 7))
		check(list...)
		list, _ = impl.DecodingsOf(set, "abaaba")
		check(list...)
	}
	// Results and arguments of codes, whose hulls are themselves.
	set := []string{"ab", "ba", "abb"}
	hull, _ := impl.HullOf(set)
	spoil([]any{hull})
	f := wordsFrom("a b c d")
	both, _ := impl.ComposeImages(f, wordsFrom("a b c d"))
	spoil([]any{both})
	if !slices.Equal(set, []string{"ab", "ba", "abb"}) || !slices.Equal(f, wordsFrom("a b c d")) {
		t.Errorf("a result shares memory with an argument: %q, %q", set, f)
	}
}

// TestSevenReturns gives all functions of chapter 7 the greatest arguments, very great ones, and strange ones.
func TestSevenReturns(t *testing.T) {
	very := strings.Repeat("a", 1000000)
	many := make([]int64, 1000000)
	sets := [][]string{nil, {very}, make([]string, 1000000), slices.Repeat([]string{"a"}, 1000000), powersOf("a", 5, 6, 7, 8, 9, 10, 11, 12), powersOf("a", 1, 2, 3, 4, 5, 6, 7, 8), powersOf("a", 11, 12), setOf(wordsFrom("baababaababa abaababaaba babaababaab ababaababaa ababaabab aababaabab"))}
	images := [][]string{nil, {very, very, very, very}, make([]string, 1000000), make([]string, 4), wordsFrom("aaaaaaaa aaaaaaaa aaaaaaaa aaaaaaaa"), wordsFrom("aaaaaaaa aaaaaaa aaaaaa aaaaa"), {"\xff", "e", "X", "\x00"}}
	lists := [][]int64{nil, many, {math.MaxInt64, math.MinInt64}, slices.Repeat([]int64{1}, 999999)}
	for i, set := range sets {
		for k, f := range images {
			for l, n := range []int64{math.MinInt64, 0, 4, 7, math.MaxInt64} {
				w := []string{"", very, strings.Repeat("a", 60), "aab", "\xff"}[(i+k+l)%5]
				for name, call := range sevenCalls(set, w, lists[(i+k+l)%4], f, images[(k+l+5)%7], min(n, 4), n) {
					if len(call()) == 0 {
						t.Errorf("%s returns nothing", name)
					}
				}
			}
		}
	}
}
