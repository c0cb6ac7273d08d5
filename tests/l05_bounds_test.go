package tests

import (
	"fmt"
	"math"
	"slices"
	"strings"
	"testing"

	"loop.example/g01143/impl"
)

// badUnknowns are numbers of no unknown.
var badUnknowns = []int64{-1, 4, 5, math.MinInt64, math.MaxInt64}

func TestValidBounds(t *testing.T) {
	good := append(fewBounds(), turning("0123 0123 0123 0123"), turning("- - - -"), bounds(3, overMaps, "0 3 12 -"), bounds(0, "0000", "- - - -"), bounds(3, "3333 3333 3333 3333", "03 13 23 3"))
	for i, b := range good {
		if !impl.ValidBounds(b) {
			t.Errorf("good bounds %d are not valid: %v", i, b)
		}
	}
	for i, b := range badBounds() {
		if impl.ValidBounds(b) {
			t.Errorf("bad bounds %d are valid: %.200s", i, fmt.Sprint(b))
		}
	}
}

func TestSameBounds(t *testing.T) {
	list := append(fewBounds(), badBounds()[:34]...)
	for i, a := range list {
		for k, b := range list {
			if got := impl.SameBounds(a, b); got != (fmt.Sprint(a) == fmt.Sprint(b)) {
				t.Errorf("SameBounds of %d and %d: got %v for %v and %v", i, k, got, a, b)
			}
		}
	}
	empty := impl.Bounds{Next: [][]int64{}, Ends: [][]int64{}}
	if !impl.SameBounds(empty, impl.Bounds{}) || !impl.SameBounds(impl.Bounds{Ends: [][]int64{{}, nil}}, impl.Bounds{Ends: [][]int64{nil, {}}}) || impl.SameBounds(impl.Bounds{Ends: [][]int64{nil}}, empty) {
		t.Error("empty lists are not the same")
	}
	changed := []func(b *impl.Bounds){
		func(b *impl.Bounds) { b.Start = 1 }, func(b *impl.Bounds) { b.Next[1][3] = 0 }, func(b *impl.Bounds) { b.Next[0] = b.Next[0][:3] }, func(b *impl.Bounds) { b.Next = b.Next[:1] },
		func(b *impl.Bounds) { b.Ends[0][0] = 1 }, func(b *impl.Bounds) { b.Ends[3] = b.Ends[3][:1] }, func(b *impl.Bounds) { b.Ends = b.Ends[:3] }, func(b *impl.Bounds) { b.Ends = append(b.Ends, nil) },
	}
	for i, change := range changed {
		b := parity()
		change(&b)
		if impl.SameBounds(b, parity()) || impl.SameBounds(parity(), b) {
			t.Errorf("change %d is not noticed", i)
		}
	}
}

func TestMapOf(t *testing.T) {
	words := append(textsUpTo("abcd", 3), strings.Repeat("ab", 30), strings.Repeat("abcdd", 12), strings.Repeat("a", 59))
	for _, b := range fewBounds() {
		for _, w := range words {
			got, code := impl.MapOf(b, w)
			text := ""
			for _, s := range got {
				text += fmt.Sprint(s)
			}
			if text != mapText(b, w) || code != impl.OK {
				t.Fatalf("MapOf of %v and %q: got %v, %d, want %s", b, w, got, code, mapText(b, w))
			}
		}
	}
	m, code := impl.MapOf(turning("- - - -"), "baca")
	same(t, "MapOf of as many states as there may be", `[2 3 0 1] 0`, m, code)
	m, code = impl.MapOf(everything(), "abcd")
	same(t, "MapOf of one state", `[0] 0`, m, code)
	m, code = impl.MapOf(bounds(0, overMaps, "- - - -"), "")
	same(t, "MapOf with more than MaxMaps maps", `[0 1 2 3] 0`, m, code)
	for _, w := range noWords() {
		m, code = impl.MapOf(parity(), w)
		same(t, "MapOf of no word", `[] 1`, m, code)
	}
	for _, b := range badBounds() {
		m, code = impl.MapOf(b, "a")
		same(t, "MapOf of bad bounds", `[] 1`, m, code)
	}
}

func TestMapsOf(t *testing.T) {
	for _, b := range fewBounds() {
		want := firstWordsOf(b)
		got, code := impl.MapsOf(b)
		if !slices.Equal(got, want) || code != impl.OK {
			t.Errorf("MapsOf %v: got %q, %d, want %q", b, got, code, want)
		}
	}
	cases := [][2]string{
		{"0000", `[""] 0`}, {"1000 0111", `["" "a"] 0`}, {"0111 1000", `["" "b"] 0`}, {"1111 0000", `["" "a"] 0`}, {"1111 1111", `["" "a"] 0`},
		{"1200 2011 0122", `["" "a" "b"] 0`},                             // "b" is shorter than "aa", though it is no earlier letter
		{"1200 2311 3022 0133", `["" "a" "b" "ab"] 0`},                   // "ab" comes before "ba" and "aaa"
		{"0200 1011 2122", `["" "b" "bb"] 0`},                            // "a" does nothing
		{"1000 0122 2211", `["" "a" "c" "ac" "ca" "aca"] 0`},             // "aca" and "cac" are one map
		{"0001 0001", `["" "a" "d"] 0`}, {"0011 0011", `["" "a" "c"] 0`}, // of two letters with one map the earlier one
	}
	for _, c := range cases {
		words, code := impl.MapsOf(bounds(0, c[0], "- - - -"))
		same(t, "MapsOf "+c[0], c[1], words, code)
	}
	for _, b := range badBounds() {
		words, code := impl.MapsOf(b)
		same(t, "MapsOf of bad bounds", `[] 1`, words, code)
	}
}

// TestMapsLimits looks at just MaxMaps maps, and at more, where maps are not limited.
func TestMapsLimits(t *testing.T) {
	for _, start := range []int64{0, 3} {
		full, over := bounds(start, fullMaps, "0 12 0123 -"), bounds(start, overMaps, "0 12 0123 -")
		words, code := impl.MapsOf(full)
		same(t, "just MaxMaps maps", `40 0`, len(words), code)
		p, code := impl.MapProduct(full, 39, 39)
		same(t, "MapProduct of the last map", fmt.Sprint(numberOf(full, words[39]+words[39]), " 0"), p, code)
		if n := len(firstWordsOf(over)); n != 41 {
			t.Errorf("there are %d maps", n)
		}
		words, code = impl.MapsOf(over)
		same(t, "one map more", `[] 3`, words, code)
		words, code = impl.MapsOf(bounds(start, "1110 2011 3222 0333", "0 12 0123 -"))
		same(t, "very many maps", `[] 3`, words, code)
		for _, i := range []int64{0, -1, 40, 41} {
			p, code = impl.MapProduct(over, i, 0)
			same(t, "MapProduct with one map more", `0 3`, p, code)
		}
		yes, code := impl.Allows(over, 1, "")
		same(t, "Allows with one map more", `false 0`, yes, code)
		count, code := impl.CountAllowed(over, 2, 20)
		same(t, "CountAllowed with one map more", `1099511627776 0`, count, code)
		w, code := impl.FirstAllowed(over, 2)
		same(t, "FirstAllowed with one map more", `"" 0`, w, code)
	}
}

// numberOf returns the number of the map of a word.
func numberOf(b impl.Bounds, w string) int {
	return slices.IndexFunc(firstWordsOf(b), func(first string) bool { return mapText(b, first) == mapText(b, w) })
}

func TestMapProduct(t *testing.T) {
	for _, b := range fewBounds() {
		words := firstWordsOf(b)
		for i, v := range words {
			for k, w := range words {
				got, code := impl.MapProduct(b, int64(i), int64(k))
				if code != impl.OK || got < 0 || got >= int64(len(words)) || mapText(b, words[got]) != mapText(b, v+w) {
					t.Fatalf("MapProduct of %v, %d and %d: got %d, %d", b, i, k, got, code)
				}
			}
		}
		for _, bad := range []int64{-1, int64(len(words)), 40, math.MinInt64, math.MaxInt64} {
			for _, pair := range [][2]int64{{bad, 0}, {0, bad}, {bad, bad}} {
				got, code := impl.MapProduct(b, pair[0], pair[1])
				same(t, "MapProduct of no map", `0 2`, got, code)
			}
		}
	}
	// "ac" leads from the state 0 to the state 2, "ca" to the state 1.
	b := bounds(0, "1000 0122 2211", "- - - -")
	got, code := impl.MapProduct(b, 1, 2)
	same(t, "the first word comes first", `3 0`, got, code)
	got, code = impl.MapProduct(b, 2, 1)
	same(t, "the other one comes first", `4 0`, got, code)
	for _, b := range badBounds() {
		got, code = impl.MapProduct(b, 0, 0)
		same(t, "MapProduct of bad bounds", `0 1`, got, code)
		got, code = impl.MapProduct(b, -1, 50)
		same(t, "MapProduct of bad bounds and of no map", `0 1`, got, code)
	}
}

func TestAllows(t *testing.T) {
	words := append(textsUpTo("abcd", 3), strings.Repeat("ab", 30))
	for _, b := range fewBounds() {
		for x := range 4 {
			for _, w := range words {
				got, code := impl.Allows(b, int64(x), w)
				if got != allowedFor(b, x, w) || code != impl.OK {
					t.Fatalf("Allows of %v, %d and %q: got %v, %d", b, x, w, got, code)
				}
			}
		}
		for _, k := range badUnknowns {
			got, code := impl.Allows(b, k, "a")
			same(t, "Allows of no unknown", `false 2`, got, code)
			got, code = impl.Allows(b, k, "e")
			same(t, "Allows of no unknown and no word", `false 1`, got, code)
		}
	}
	b := bounds(0, "1111 1111", "0 1 01 -")
	for _, c := range []struct {
		k    int64
		w    string
		want string
	}{{0, "", `true 0`}, {0, "a", `false 0`}, {1, "", `false 0`}, {1, "d", `true 0`}, {2, "", `true 0`}, {2, "dd", `true 0`}, {3, "", `false 0`}, {3, "a", `false 0`}} {
		got, code := impl.Allows(b, c.k, c.w)
		same(t, fmt.Sprint("Allows ", c.k, c.w), c.want, got, code)
	}
	for _, w := range noWords() {
		got, code := impl.Allows(everything(), 0, w)
		same(t, "Allows of no word", `false 1`, got, code)
	}
	for _, b := range badBounds() {
		got, code := impl.Allows(b, 0, "a")
		same(t, "Allows of bad bounds", `false 1`, got, code)
		got, code = impl.Allows(b, 4, "a")
		same(t, "Allows of bad bounds and no unknown", `false 1`, got, code)
	}
}

// TestAllowedWords compares the first allowed words, and the numbers of allowed words, with those that are found by trying all words.
func TestAllowedWords(t *testing.T) {
	words := textsUpTo("abcd", 6)
	for _, b := range append(fewBounds(), bounds(0, overMaps, "3 1 2 0"), bounds(0, "0001 0012 0003 3333", "1 2 3 -")) {
		for x := range 4 {
			counts := make([]int64, 7)
			want := `"" 6`
			for _, w := range words {
				if !allowedFor(b, x, w) {
					continue
				}
				counts[len(w)]++
				if want == `"" 6` {
					want = fmt.Sprintf("%q 0", w)
				}
			}
			first, code := impl.FirstAllowed(b, int64(x))
			same(t, fmt.Sprint("FirstAllowed ", b, x), want, first, code)
			for n, want := range counts {
				got, code := impl.CountAllowed(b, int64(x), int64(n))
				same(t, fmt.Sprint("CountAllowed ", b, x, n), fmt.Sprint(want, " 0"), got, code)
			}
		}
	}
}

func TestAllowedWordsEdges(t *testing.T) {
	first := func(b impl.Bounds, k int64, want string) {
		t.Helper()
		w, code := impl.FirstAllowed(b, k)
		same(t, fmt.Sprint("FirstAllowed ", b, k), want, w, code)
	}
	count := func(b impl.Bounds, k, n int64, want string) {
		t.Helper()
		got, code := impl.CountAllowed(b, k, n)
		same(t, fmt.Sprint("CountAllowed ", b, k, n), want, got, code)
	}
	long := bounds(0, "0001 0012 0003 3333", "3 12 - 02")
	first(long, 0, `"ddd" 0`)
	first(long, 1, `"d" 0`)
	first(long, 2, `"" 6`)
	first(long, 3, `"" 0`)
	first(bounds(0, "1000 0111 2222", "2 12 - 02"), 0, `"" 6`)
	first(bounds(0, "1203 1111 2222 3333", "23 3 3 3"), 0, `"b" 0`)
	first(bounds(0, "1222 1113 2222 3333", "3 3 3 3"), 3, `"ad" 0`)
	first(bounds(0, "2100 3111 1222 3333", "3 3 3 3"), 3, `"ba" 0`) // not "aaa", which is longer
	count(everything(), 0, 0, `1 0`)
	count(everything(), 3, 20, `1099511627776 0`)
	count(parity(), 0, 20, `549756338176 0`)
	count(parity(), 1, 20, `1099511627776 0`)
	count(bounds(0, "1111 1111", "0 1 01 -"), 0, 0, `1 0`)
	count(bounds(0, "1111 1111", "0 1 01 -"), 0, 1, `0 0`)
	count(bounds(0, "1111 1111", "0 1 01 -"), 1, 0, `0 0`)
	count(bounds(0, "1111 1111", "0 1 01 -"), 1, 20, `1099511627776 0`)
	count(bounds(0, "1111 1111", "0 1 01 -"), 2, 1, `4 0`)
	count(bounds(0, "1111 1111", "0 1 01 -"), 3, 20, `0 0`)
	for _, n := range []int64{-1, 21, 22, math.MinInt64, math.MaxInt64} {
		count(everything(), 0, n, `0 2`)
		count(everything(), 4, n, `0 2`)
		for _, b := range badBounds() {
			count(b, 0, n, `0 1`)
		}
	}
	for _, k := range badUnknowns {
		first(everything(), k, `"" 2`)
		first(bounds(0, "0000", "- - - -"), k, `"" 2`)
		count(everything(), k, 0, `0 2`)
		for _, b := range badBounds() {
			first(b, k, `"" 1`)
			count(b, k, 0, `0 1`)
		}
	}
	for _, b := range badBounds() {
		first(b, 0, `"" 1`)
		count(b, 0, 0, `0 1`)
	}
}
