package tests

import (
	"fmt"
	"math"
	"slices"
	"strings"
	"testing"

	"loop.example/g01143/impl"
)

func TestValidImages(t *testing.T) {
	for _, f := range append(fewImages(), make([]string, 4), wordsFrom("abcdabcd dcbadcba aaaaaaaa dddddddd"), lettersOf(8, 0, 7, 1)) {
		if !impl.ValidImages(f) {
			t.Errorf("%q are not valid", f)
		}
	}
	for i, f := range badImages() {
		if impl.ValidImages(f) {
			t.Errorf("bad images %d are valid: %.100q", i, f)
		}
	}
}

// TestBadImages gives all functions of images lists that are none, which comes ahead of all other errors.
func TestBadImages(t *testing.T) {
	good := wordsFrom("a b c d")
	for i, bad := range badImages() {
		name := fmt.Sprintf("bad images %d: %.50q", i, bad)
		w, c1 := impl.ApplyImages(bad, "ab")
		w2, c2 := impl.ApplyImages(bad, sixty)
		both, c3 := impl.ComposeImages(bad, good)
		both2, c4 := impl.ComposeImages(good, bad)
		yes, c5 := impl.IsInjective(bad, 2)
		no, c6 := impl.IsInjective(bad, 5)
		same(t, name, `"" 1 "" 1 [] 1 [] 1 false 1 false 1`, w, c1, w2, c2, both, c3, both2, c4, yes, c5, no, c6)
		for _, pair := range [][2][]string{{bad, good}, {good, bad}, {bad, bad}} {
			side, rest, c1 := impl.OverhangOf(pair[0], pair[1], "ab")
			equal, c2 := impl.EqualTo(pair[0], pair[1], 2, 2)
			primes, c3 := impl.PrimesTo(pair[0], pair[1], 2, 2)
			equal2, c4 := impl.EqualTo(pair[0], pair[1], 0, 8)
			primes2, c5 := impl.PrimesTo(pair[0], pair[1], 5, -1)
			same(t, name, `0 "" 1 [] 1 [] 1 [] 1 [] 1`, side, rest, c1, equal, c2, primes, c3, equal2, c4, primes2, c5)
		}
	}
	for _, w := range noWords() {
		image, c1 := impl.ApplyImages(good, w)
		side, rest, c2 := impl.OverhangOf(good, wordsFrom("b a c abcdabcd"), w)
		same(t, fmt.Sprintf("images of %.50q", w), `"" 1 0 "" 1`, image, c1, side, rest, c2)
	}
}

func TestApplyImages(t *testing.T) {
	words := append(textsUpTo("abcd", 3), "abcdabcd", "dddd", "aaaaaaaaab", sixty, sixty[:30], strings.Repeat("a", 60), strings.Repeat("c", 8), strings.Repeat("b", 7))
	for _, f := range fewImages() {
		for _, w := range words {
			got, code := impl.ApplyImages(f, w)
			want := fmt.Sprintf("%q 0", imageByHand(f, w))
			if len(imageByHand(f, w)) > 60 {
				want = `"" 3`
			}
			same(t, fmt.Sprintf("ApplyImages %q %q", f, w), want, got, code)
		}
	}
	check := func(images, w, want string) {
		t.Helper()
		got, code := impl.ApplyImages(wordsFrom(images), w)
		same(t, "ApplyImages of "+images+" and "+w, want, got, code)
	}
	a := func(n int) string { return strings.Repeat("a", n) }
	check("ab - - -", "aba", `"abab" 0`)
	check("- - - -", sixty, `"" 0`)
	check("a b c d", "", `"" 0`)
	check("aaaaaaaa - - -", "", `"" 0`)
	check("a b c d", sixty, fmt.Sprintf("%q 0", sixty))
	check("aa b c d", sixty, `"" 3`)
	check("aa - c d", sixty, fmt.Sprintf("%q 0", strings.Repeat("aacd", 15)))
	check("aaaaaaaa aaaa - d", "aaaaaaab", fmt.Sprintf("%q 0", a(60)))
	check("aaaaaaaa aaaa - d", "aaaaaaabd", `"" 3`)
	check("aaaaaaaa aaaa - d", "aaaaaaabc", fmt.Sprintf("%q 0", a(60)))
	check("aaaaaaaa aaaa aaaaa d", "aaaaaaac", `"" 3`)
	check("- abcd dcba a", "bca", `"abcddcba" 0`)
}

func TestComposeImages(t *testing.T) {
	words := textsUpTo("abcd", 3)
	for _, f := range fewImages() {
		for _, g := range fewImages() {
			name := fmt.Sprintf("ComposeImages %q %q", f, g)
			var want []string
			for _, w := range f {
				want = append(want, imageByHand(g, w))
			}
			both, code := impl.ComposeImages(f, g)
			if slices.ContainsFunc(want, func(w string) bool { return len(w) > 8 }) {
				same(t, name, `[] 3`, both, code)
				continue
			}
			same(t, name, fmt.Sprintf("%q 0", want), both, code)
			for _, w := range words {
				byF, _ := impl.ApplyImages(f, w)
				byG, _ := impl.ApplyImages(g, byF)
				got, code := impl.ApplyImages(both, w)
				same(t, name+w, fmt.Sprintf("%q 0", byG), got, code)
			}
		}
	}
	check := func(f, g, want string) {
		t.Helper()
		both, code := impl.ComposeImages(wordsFrom(f), wordsFrom(g))
		same(t, "ComposeImages of "+f+" and "+g, want, both, code)
	}
	check("a b - -", "ab - - -", `["ab" "" "" ""] 0`)
	check("ab - - -", "a b - -", `["ab" "" "" ""] 0`)
	check("b a - d", "ab ba c ddd", `["ba" "ab" "" "ddd"] 0`)
	check("aaaa bb - c", "ab cdcd - aaaaaaaa", `["abababab" "cdcdcdcd" "" ""] 0`)
	for x := range 4 {
		f := []string{"b", "b", "b", "b"}
		f[x] = "aab"
		both, code := impl.ComposeImages(f, wordsFrom("aaa bb - -"))
		want := []string{"bb", "bb", "bb", "bb"}
		want[x] = "aaaaaabb"
		same(t, "ComposeImages to just as many letters", fmt.Sprintf("%q 0", want), both, code)
		both, code = impl.ComposeImages(f, wordsFrom("aaa bbb - -"))
		same(t, "ComposeImages to one more", `[] 3`, both, code)
	}
	check("aaaaaaaa - - -", "aaaaaaaa - - -", `[] 3`)
	check("aaaaaaaa b c d", "- b c d", `["" "b" "c" "d"] 0`)
}

// isInjectiveByHand reports whether the images of the first letters are a code of so many words.
func isInjectiveByHand(f []string, letters int) bool {
	images := setOf(f[:letters])
	return len(images) == letters && isCodeByHand(images)
}

// checkInjective compares what is told with the model, and with a search among short words.
func checkInjective(t *testing.T, f []string, letters, most int) {
	t.Helper()
	got, code := impl.IsInjective(f, int64(letters))
	same(t, fmt.Sprintf("IsInjective %q %d", f, letters), fmt.Sprint(isInjectiveByHand(f, letters), " 0"), got, code)
	known := map[string]string{}
	for _, w := range textsUpTo("abcd"[:letters], most) {
		image := imageByHand(f, w)
		if other, ok := known[image]; ok && got {
			t.Errorf("IsInjective %q %d: but %q and %q have equal images", f, letters, other, w)
		}
		known[image] = w
	}
	// Images of two letters or less become equal soon, if they do.
	if short := !slices.ContainsFunc(f, func(w string) bool { return len(w) > 2 }); short && !got && len(known) == len(textsUpTo("abcd"[:letters], most)) {
		t.Errorf("IsInjective %q %d: but no short words have equal images", f, letters)
	}
}

func TestIsInjective(t *testing.T) {
	words := append(textsUpTo("ab", 2), "c", "cb")
	for _, u := range words {
		for _, v := range words {
			checkInjective(t, []string{u, "", "c", v}, 1, 3)
			checkInjective(t, []string{u, v, "a", "a"}, 2, 5)
			for _, w := range words {
				checkInjective(t, []string{u, v, w, ""}, 3, 4)
			}
		}
	}
	for _, f := range fewImages() {
		for letters := 1; letters <= 4; letters++ {
			checkInjective(t, f, letters, 5)
		}
		for _, letters := range badLetters {
			got, code := impl.IsInjective(f, letters)
			same(t, fmt.Sprintf("IsInjective %q %d", f, letters), `false 2`, got, code)
		}
	}
}

func TestIsInjectiveCases(t *testing.T) {
	check := func(images string, want ...bool) {
		t.Helper()
		for i, w := range want {
			got, code := impl.IsInjective(wordsFrom(images), int64(i+1))
			same(t, fmt.Sprint("IsInjective ", images, " ", i+1), fmt.Sprint(w, " 0"), got, code)
		}
	}
	check("a b c d", true, true, true, true)
	check("d d c b", true, false, false, false) // two equal images
	check("a b c b", true, true, true, false)
	check("- - - -", false, false, false, false)
	check("- b c d", false, false, false, false) // an empty image
	check("a - c d", true, false, false, false)
	check("a b - d", true, true, false, false)
	check("a b c -", true, true, true, false)
	check("ab ba abb bb", true, true, true, false)
	check("bb abb ba ab", true, true, true, false)
	check("abb ba ab bb", true, true, true, false)
	check("ba a ab b", true, true, false, false)
	check("abab ab c d", true, false, false, false)
	check("abaaba aba - -", true, false, false, false)
	check("aaaaaaaa aaaaaaa b -", true, false, false, false)
	check("aaaaaaaa baaaaaaa ab ba", true, true, true, true)
	check("aa ba bb ab", true, true, true, true)
	check("a ab bb bab", true, true, true, false)
	check("aaaaaaab aaaaaaa b c", true, true, false, false)
}

// TestInjectiveImagesOfCodes makes sure that the images of a code by injective images are a code.
func TestInjectiveImagesOfCodes(t *testing.T) {
	codes, others := 0, 0
	for _, set := range append(shortSets(), longSets()...) {
		if !isCodeByHand(set) {
			continue
		}
		for _, f := range fewImages() {
			var images []string
			for _, w := range set {
				images = append(images, imageByHand(f, w))
			}
			images = setOf(images)
			if injective, _ := impl.IsInjective(f, 4); !impl.ValidSet(images) {
				continue
			} else if isCode, code := impl.IsCode(images); injective && (!isCode || code != impl.OK || len(images) != len(set)) {
				t.Errorf("the images of the code %q by %q are %q, and no code", set, f, images)
			} else if injective {
				codes++
			} else if !isCode {
				others++
			}
		}
	}
	if min(codes, others) < 100 {
		t.Errorf("only %d codes, and %d that are none", codes, others)
	}
}

// overhangByHand returns the text of what OverhangOf should return for images and a word.
func overhangByHand(f, g []string, w string) string {
	byF, byG := imageByHand(f, w), imageByHand(g, w)
	n := min(len(byF), len(byG))
	switch {
	case max(len(byF), len(byG)) > 60:
		return `0 "" 3`
	case byF[:n] != byG[:n]:
		return `0 "" 4`
	case len(byF) > n:
		return fmt.Sprintf("1 %q 0", byF[n:])
	case len(byG) > n:
		return fmt.Sprintf("2 %q 0", byG[n:])
	}
	return `0 "" 0`
}

func TestOverhangOf(t *testing.T) {
	words := append(textsUpTo("abcd", 2), "abab", "aaaa", "cabac", "aaaaaaaab", "ddddddd", sixty, strings.Repeat("a", 60))
	kinds := map[string]int{}
	for _, f := range fewImages() {
		for _, g := range fewImages() {
			for _, w := range words {
				side, rest, code := impl.OverhangOf(f, g, w)
				same(t, fmt.Sprintf("OverhangOf %q %q %q", f, g, w), overhangByHand(f, g, w), side, rest, code)
				kinds[fmt.Sprint(side, code)]++
			}
		}
	}
	for _, kind := range []string{"0 0", "1 0", "2 0", "0 3", "0 4"} {
		if kinds[kind] < 50 {
			t.Errorf("only %d of the kind %s", kinds[kind], kind)
		}
	}
}

func TestOverhangOfCases(t *testing.T) {
	check := func(f, g, w, want string) {
		t.Helper()
		side, rest, code := impl.OverhangOf(wordsFrom(f), wordsFrom(g), w)
		same(t, "OverhangOf "+f+", "+g+", "+w, want, side, rest, code)
		if want != overhangByHand(wordsFrom(f), wordsFrom(g), w) {
			t.Errorf("OverhangOf %s, %s, %s is not %s", f, g, w, want)
		}
	}
	a := func(n int) string { return strings.Repeat("a", n) }
	check("a b - -", "ab - - -", "a", `2 "b" 0`)
	check("ab - - -", "a b - -", "a", `1 "b" 0`)
	check("a b - -", "ab - - -", "ab", `0 "" 0`)
	check("a b - -", "ab - - -", "aa", `0 "" 4`)
	check("a b - -", "ab - - -", "", `0 "" 0`)
	check("- - - -", "- - - -", "abcd", `0 "" 0`)
	check("- - - -", "abc - - -", "a", `2 "abc" 0`)
	check("dddddddd - - -", "- - - -", "a", `1 "dddddddd" 0`)
	check("aaaaaaaa aaaa - -", "a - - -", "aaaaaaab", fmt.Sprintf("1 %q 0", a(53)))
	check("a - - -", "aaaaaaaa aaaa - -", "aaaaaaab", fmt.Sprintf("2 %q 0", a(53)))
	check("aaaaaaaa aaaaa - -", "a - - -", "aaaaaaab", `0 "" 3`) // it fits, but is too long
	check("a - - -", "aaaaaaaa aaaaa - -", "aaaaaaab", `0 "" 3`)
	check("aaaaaaaa aaaaa - -", "b - - -", "aaaaaaab", `0 "" 3`) // it does not fit, and is too long
	check("b - - -", "aaaaaaaa aaaaa - -", "aaaaaaab", `0 "" 3`)
	check("aaaaaaaa aaaaa - -", "bbbbbbbb aaaaa - -", "aaaaaaab", `0 "" 3`)
	check("aaaaaaaa aaaa - -", "bbbbbbbb aaaa - -", "aaaaaaab", `0 "" 4`)
	check("aaaaaaaa aaaa - -", "aaaaaaaa aaaa b d", "aaaaaaab", `0 "" 0`)
	check("ab c - -", "ab d - -", "ab", `0 "" 4`)
	check("ab c d -", "ab cd - -", "ab", `2 "d" 0`)
	check("ab c d -", "ab cd - -", "abc", `0 "" 0`)
}

// checkEqual compares words with equal images, and the prime ones of them, with those among all words.
func checkEqual(t *testing.T, f, g []string, letters, length int) {
	t.Helper()
	name := fmt.Sprintf("%q %q %d %d", f, g, letters, length)
	equal, c1 := impl.EqualTo(f, g, int64(letters), int64(length))
	primes, c2 := impl.PrimesTo(f, g, int64(letters), int64(length))
	want := equalByHand(f, g, letters, length)
	if len(want) > 200 {
		same(t, "too many for EqualTo, PrimesTo "+name, `[] 3 [] 3`, equal, c1, primes, c2)
		return
	}
	same(t, "EqualTo "+name, fmt.Sprintf("%q 0", want), equal, c1)
	same(t, "PrimesTo "+name, fmt.Sprintf("%q 0", primesByHand(want)), primes, c2)
	for i, v := range equal {
		side, rest, code := impl.OverhangOf(f, g, v)
		same(t, "OverhangOf "+name+v, `0 "" 0`, side, rest, code)
		if w := equal[(i*7+3)%len(equal)]; len(v+w) <= length && !slices.Contains(equal, v+w) {
			t.Errorf("%s: %q and %q have equal images, but not both together", name, v, w)
		}
	}
}

func TestEqualTo(t *testing.T) {
	images := fewImages()
	for _, f := range images {
		for k, g := range images {
			for letters := 1; letters <= 4; letters++ {
				checkEqual(t, f, g, letters, k%4)
			}
			checkEqual(t, f, g, 2, 5)
			checkEqual(t, f, g, 3, 4)
		}
	}
	words := textsUpTo("ab", 2)
	for i, u := range words {
		for _, v := range words {
			for _, w := range words {
				checkEqual(t, []string{u, v, "a", ""}, []string{w, words[(i+3)%7], "a", "b"}, 2, 6)
				checkEqual(t, []string{u, "b", v, "d"}, []string{w, words[(i+5)%7], "ab", "d"}, 3, 4)
			}
		}
	}
}

func TestEqualToCases(t *testing.T) {
	check := func(f, g string, letters, length int64, want string) {
		t.Helper()
		equal, c1 := impl.EqualTo(wordsFrom(f), wordsFrom(g), letters, length)
		primes, c2 := impl.PrimesTo(wordsFrom(f), wordsFrom(g), letters, length)
		same(t, fmt.Sprint("EqualTo, PrimesTo ", f, g, letters, length), want, equal, primes, c1, c2)
		checkEqual(t, wordsFrom(f), wordsFrom(g), int(letters), int(length))
	}
	check("a b - -", "ab - - -", 2, 0, `[] [] 0 0`)
	check("a b - -", "ab - - -", 2, 1, `[] [] 0 0`)
	check("a b - -", "ab - - -", 2, 2, `["ab"] ["ab"] 0 0`)
	check("a b - -", "ab - - -", 2, 3, `["ab"] ["ab"] 0 0`)
	check("a b - -", "ab - - -", 2, 4, `["ab" "abab"] ["ab"] 0 0`)
	check("a b - -", "ab - - -", 2, 7, `["ab" "abab" "ababab"] ["ab"] 0 0`)
	check("a b - -", "ab - - -", 1, 7, `[] [] 0 0`)
	check("a b - -", "ab - - -", 3, 1, `["c"] ["c"] 0 0`)
	check("a b - -", "ab - - -", 3, 2, `["c" "ab" "cc"] ["c" "ab"] 0 0`)
	check("a b - -", "ab - - -", 3, 3, `["c" "ab" "cc" "abc" "acb" "cab" "ccc"] ["c" "ab" "acb"] 0 0`)
	check("a b c d", "b a d c", 4, 7, `[] [] 0 0`)
	check("a b c d", "a b c c", 4, 1, `["a" "b" "c"] ["a" "b" "c"] 0 0`)
	check("a - - -", "a - - -", 1, 7, `["a" "aa" "aaa" "aaaa" "aaaaa" "aaaaaa" "aaaaaaa"] ["a"] 0 0`)
	check("a b - -", "a b - -", 2, 2, `["a" "b" "aa" "ab" "ba" "bb"] ["a" "b"] 0 0`)
	// Made of others in several ways.
	check("a aa - -", "aa a - -", 2, 4, `["ab" "ba" "aabb" "abab" "abba" "baab" "baba" "bbaa"] ["ab" "ba" "aabb" "bbaa"] 0 0`)
	check("- - a -", "- - aa a", 3, 4, `["a" "b" "aa" "ab" "ba" "bb" "aaa" "aab" "aba" "abb" "baa" "bab" "bba" "bbb" "aaaa" "aaab" "aaba" "aabb" "abaa" "abab" "abba" "abbb" "baaa" "baab" "baba" "babb" "bbaa" "bbab" "bbba" "bbbb"] ["a" "b"] 0 0`)
	check("a b ab -", "a b ba -", 3, 2, `["a" "b" "aa" "ab" "ba" "bb"] ["a" "b"] 0 0`)
	check("a b ab -", "ab - b -", 3, 3, `["ab"] ["ab"] 0 0`)
	// The longest images.
	check("aaaaaaaa b - -", "aaaaaaaa - b -", 3, 2, `["a" "aa" "bc" "cb"] ["a" "bc" "cb"] 0 0`)
	check("aaaaaaaa aaaaaaaa aaaaaaaa aaaaaaaa", "aaaaaaaa aaaaaaaa aaaaaaaa aaaaaaab", 1, 7, `["a" "aa" "aaa" "aaaa" "aaaaa" "aaaaaa" "aaaaaaa"] ["a"] 0 0`)
}

// TestEqualToMany looks at just as many words as may be returned, at one more, and at very many.
func TestEqualToMany(t *testing.T) {
	check := func(f, g []string, letters, length, want int) {
		t.Helper()
		checkEqual(t, f, g, letters, length)
		equal, c1 := impl.EqualTo(f, g, int64(letters), int64(length))
		primes, c2 := impl.PrimesTo(f, g, int64(letters), int64(length))
		if found := len(equalByHand(f, g, letters, length)); found != want || want <= 200 && len(equal) != want || (want > 200) != (c1 == impl.ErrLimit) || c1 != c2 || len(primes) > len(equal) {
			t.Errorf("EqualTo, PrimesTo %q %q %d %d: got %d, %d, %d, %d, want %d; by hand %d", f, g, letters, length, len(equal), c1, len(primes), c2, want, found)
		}
	}
	check(wordsFrom("- b a aba"), wordsFrom("aba b a -"), 4, 5, 200)
	check(lettersOf(0, 0, 8), lettersOf(7, 3, 0), 3, 7, 200)
	check(lettersOf(0, 0, 3, 3), lettersOf(7, 2, 0, 0), 4, 5, 200)
	check(lettersOf(0, 0, 1, 6), lettersOf(7, 4, 0, 0), 4, 6, 201)
	check(lettersOf(0, 1, 3, 8), lettersOf(4, 0, 0, 2), 4, 6, 201)
	for letters, counts := range [][]int{{7}, {126, 254}, {120, 363}, {84, 340}} {
		length := []int{7, 6, 4, 3}[letters]
		for i, want := range counts {
			// All words.
			check(wordsFrom("a b c d"), wordsFrom("a b c d"), letters+1, length+i, want)
			check(make([]string, 4), make([]string, 4), letters+1, length+i, want)
		}
	}
	check(wordsFrom("a b c d"), wordsFrom("a b c d"), 4, 7, 21844)
	check(wordsFrom("abcdabcd abcdabcd abcdabcd abcdabcd"), wordsFrom("abcdabcd abcdabcd abcdabcd abcdabcd"), 4, 7, 21844)
	check(wordsFrom("a b c d"), wordsFrom("b c d a"), 4, 7, 0)
}

func TestEqualToErrors(t *testing.T) {
	f, g := wordsFrom("a b c d"), wordsFrom("a b c d")
	check := func(letters, length int64) {
		t.Helper()
		equal, c1 := impl.EqualTo(f, g, letters, length)
		primes, c2 := impl.PrimesTo(f, g, letters, length)
		same(t, fmt.Sprint("EqualTo, PrimesTo ", letters, length), `[] 2 [] 2`, equal, c1, primes, c2)
	}
	for _, letters := range badLetters {
		check(letters, 0)
		check(letters, 7)
		check(letters, 8)
	}
	for _, length := range []int64{-1, 8, 9, math.MinInt64, math.MaxInt64, 1 << 32} {
		check(1, length)
		check(4, length) // ahead of there being too many
		check(0, length)
	}
}
