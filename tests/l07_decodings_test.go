package tests

import (
	"fmt"
	"math"
	"math/big"
	"slices"
	"strings"
	"testing"

	"loop.example/g01143/impl"
)

// checkDecodings compares the decodings of a word with those by hand, and each of them with its word.
func checkDecodings(t *testing.T, set []string, w string) {
	t.Helper()
	name := fmt.Sprintf("%q and %q", set, w)
	want := countByHand(set, w)
	n, c1 := impl.CountDecodings(set, w)
	list, c2 := impl.DecodingsOf(set, w)
	if want > 200 {
		same(t, "many decodings by "+name, fmt.Sprint(want, " 0 [] 3"), n, c1, list, c2)
		return
	}
	same(t, "decodings by "+name, fmt.Sprint(want, " 0 ", decodingsByHand(set, w), " 0"), n, c1, list, c2)
	for _, l := range list {
		decoded, code := impl.DecodedWord(set, l)
		same(t, fmt.Sprint("DecodedWord by ", name, l), fmt.Sprintf("%q 0", w), decoded, code)
	}
	if code, _ := impl.IsCode(set); code && n > 1 {
		t.Errorf("there are %d decodings by the code %s", n, name)
	}
}

func TestDecodings(t *testing.T) {
	words := textsUpTo("ab", 5)
	for i, set := range shortSets() {
		for k, w := range words {
			n, code := impl.CountDecodings(set, w)
			same(t, fmt.Sprintf("CountDecodings %q %q", set, w), fmt.Sprint(countByHand(set, w), " 0"), n, code)
			if (i+k)%3 == 0 {
				checkDecodings(t, set, w)
			}
		}
		w, first, second, code := impl.FirstTwice(set)
		list, _ := impl.DecodingsOf(set, w)
		if code == impl.OK {
			same(t, fmt.Sprintf("DecodingsOf %q %q", set, w), fmt.Sprint(first, second), list[0], list[1])
		}
	}
	for _, set := range longSets() {
		for _, w := range append(textsUpTo("abcd", 3), slices.Concat(set, []string{strings.Join(set, ""), "abcabcabc", "aaaaaaaab", "aabaabaabaaba", "abababab"})...) {
			if len(w) <= 60 {
				checkDecodings(t, set, w)
			}
		}
	}
}

func TestDecodingsCases(t *testing.T) {
	check := func(words, w, want string) {
		t.Helper()
		set := setOf(wordsFrom(words))
		n, c1 := impl.CountDecodings(set, w)
		list, c2 := impl.DecodingsOf(set, w)
		same(t, "decodings by "+words+" of "+w, want, n, c1, list, c2)
	}
	check("a", "", `1 0 [[]] 0`)
	check("a ab ba", "", `1 0 [[]] 0`)
	check("a", "b", `0 0 [] 0`)
	check("ab", "a", `0 0 [] 0`)
	check("ab", "aba", `0 0 [] 0`)
	check("ab", "baba", `0 0 [] 0`)
	check("a b c", "abcd", `0 0 [] 0`)
	check("ab", "abab", `1 0 [[0 0]] 0`)
	check("ab b", "abb", `1 0 [[1 0]] 0`)
	check("a ab ba", "aba", `2 0 [[0 2] [1 0]] 0`)
	check("a aa", "aaaa", `5 0 [[0 0 0 0] [0 0 1] [0 1 0] [1 0 0] [1 1]] 0`)
	check("a b ab ba", "abab", `5 0 [[0 1 0 1] [0 1 2] [0 3 1] [2 0 1] [2 2]] 0`)
	check("c d cd", "dcdd", `2 0 [[1 0 1 1] [1 2 1]] 0`) // both begin with the same index
	check("a aaa aa", "aaa", `4 0 [[0 0 0] [0 1] [1 0] [2]] 0`)
	check(longElement, strings.Repeat(longElement, 5), `1 0 [[0 0 0 0 0]] 0`)
	check(longElement+" abcd", strings.Repeat("abcd", 6), `6 0 [[0 0 0 0 0 0] [0 0 0 1] [0 0 1 0] [0 1 0 0] [1 0 0 0] [1 1]] 0`)
}

// TestDecodingsMany counts decodings, of which there are just as many as may be told, one more, and very many.
func TestDecodingsMany(t *testing.T) {
	check := func(set []string, w string, want int64) {
		t.Helper()
		n, code := impl.CountDecodings(set, w)
		same(t, fmt.Sprintf("CountDecodings %q %q", set, w), fmt.Sprint(want, " 0"), n, code)
		checkDecodings(t, set, w)
	}
	a := func(n int) string { return strings.Repeat("a", n) }
	check([]string{"a", "b", "aa", "bb"}, a(4)+"bbbb"+a(5), 200)
	check(powersOf("a", 2, 3), a(22), 200)
	check(powersOf("a", 2, 3), a(21), 151)
	check(powersOf("a", 2, 3), a(23), 265)
	check(powersOf("a", 1, 4, 5), a(15), 200)
	check(powersOf("a", 4, 6), a(44), 200)
	check(powersOf("a", 5, 8, 12), a(52), 200)
	check(powersOf("a", 2, 4, 5), a(20), 201)
	check(powersOf("a", 1, 2, 4, 6, 7), a(10), 201)
	check(powersOf("a", 4, 8, 10), a(40), 201)
	check(powersOf("a", 8, 10, 11, 12), a(56), 201)
	check([]string{"a", "b", "c", "d", "ad"}, strings.Repeat("ad", 7), 128)
	check([]string{"a", "b", "c", "d", "ad"}, strings.Repeat("ad", 8), 256)
	check([]string{"a", "b", "c", "d", "ad"}, strings.Repeat("ad", 30), 1<<30)
	check([]string{"a", "aa"}, a(60), 2504730781961)
	check([]string{"a", "aa"}, a(59)+"b", 0)
	check(powersOf("a", 1, 2, 3, 4, 5, 6, 7, 8), a(8), 128)
	check(powersOf("a", 1, 2, 3, 4, 5, 6, 7, 8), a(9), 255)
	check(powersOf("a", 1, 2, 3, 4, 5, 6, 7, 8), a(60), countByHand(powersOf("a", 1, 2, 3, 4, 5, 6, 7, 8), a(60)))
	// Very many ways lead to no decoding, and a few do not.
	check(append([]string{"b"}, powersOf("a", 1, 2, 3, 4, 5, 6, 7)...)[1:], a(59)+"b", 0)
	check([]string{"c", "aa", "aaaa", "aaaaaa"}, a(59)+"c", 0)
	check([]string{"aa", "aaa", "caa"}, a(25)+"caaaaa"+a(20)+"b", 0)
	check([]string{"ac", "aaa", "aaaaaaaaaaaa"}, a(58)+"ac", 0)
	check([]string{"c", "aa", "aaaaaaaaaaaa"}, a(58)+"c", countByHand([]string{"aa", "aaaaaaaaaaaa"}, a(58)))
	check([]string{"b", "aaaaaaaaaaa", "aaaaaaaaaaaa"}, a(59)+"b", 5)
}

// TestBadDecodings gives texts that are no words.
func TestBadDecodings(t *testing.T) {
	for _, set := range [][]string{{"a"}, {"a", "ab", "ba"}, powersOf("a", 1, 2, 3, 4, 5, 6, 7, 8)} {
		for _, w := range noWords() {
			n, c1 := impl.CountDecodings(set, w)
			list, c2 := impl.DecodingsOf(set, w)
			in, c3 := impl.InHull(set, w)
			same(t, fmt.Sprintf("decodings of %.50q", w), `0 1 [] 1 [] 1`, n, c1, list, c2, in, c3)
		}
	}
}

func TestDecodedWord(t *testing.T) {
	check := func(words string, want string, list ...int64) {
		t.Helper()
		set := setOf(wordsFrom(words))
		w, code := impl.DecodedWord(set, list)
		same(t, fmt.Sprintf("DecodedWord %q %v", set, list[:min(len(list), 30)]), want, w, code)
	}
	check("ab ba abb", `"" 0`)
	check("ab ba abb", `"abbab" 0`, 2, 0)
	check("ab ba abb", `"ababbbaab" 0`, 0, 2, 1, 0)
	check("a b c d aa bb cc dd", `"ddbcc" 0`, 7, 1, 6)
	twelve := slices.Repeat([]int64{1}, 5)
	check("d "+longElement, fmt.Sprintf("%q 0", sixty), twelve...)
	check("d "+longElement, fmt.Sprintf("%q 0", sixty[:48]+"dddddddddddd"), append(twelve[:4:4], make([]int64, 12)...)...)
	check("d "+longElement, `"" 3`, append(twelve[:4:4], make([]int64, 13)...)...)
	check("d "+longElement, `"" 3`, append(twelve[:5:5], 0)...)
	check("d "+longElement, `"" 3`, append([]int64{0}, twelve...)...)
	check("d", fmt.Sprintf("%q 0", strings.Repeat("d", 60)), make([]int64, 60)...)
	check("d", `"" 3`, make([]int64, 61)...)
	check("d", `"" 3`, make([]int64, 1000000)...)
	for _, bad := range []int64{-1, 3, 4, 8, math.MinInt64, math.MaxInt64, 1 << 32, -1 << 32} {
		check("ab ba abb", `"" 2`, bad)
		check("ab ba abb", `"" 2`, 0, bad)
		check("ab ba abb", `"" 2`, bad, 2)
		// An index that is none counts first, also behind a word that is too long already.
		check("ab ba abb", `"" 2`, append(slices.Repeat([]int64{2}, 20), bad)...)
		check("ab ba abb", `"" 2`, append(slices.Repeat([]int64{2}, 21), bad)...)
		check("ab ba abb", `"" 2`, append(slices.Repeat([]int64{2}, 200), 0, bad, 0)...)
	}
	check("a", `"" 2`, 1)
	check("a b c d aa bb cc dd", `"" 2`, 8)
}

// checkMeasure compares a measure with the one that is added up by hand.
func checkMeasure(t *testing.T, set []string, letters int64) {
	t.Helper()
	name := fmt.Sprintf("KraftOf %q %d", set, letters)
	num, den, code := impl.KraftOf(set, letters)
	if strings.Trim(strings.Join(set, ""), "abcd"[:letters]) != "" {
		same(t, name, `0 0 2`, num, den, code)
		return
	}
	want := new(big.Int).Exp(big.NewInt(letters), big.NewInt(int64(len(set[len(set)-1]))), nil)
	if code != impl.OK || den != want.Int64() || big.NewRat(num, den).Cmp(measureByHand(set, letters)) != 0 {
		t.Errorf("%s: got %d, %d, %d, want %v and the denominator %v", name, num, den, code, measureByHand(set, letters), want)
	}
	if isCode, _ := impl.IsCode(set); isCode && num > den {
		t.Errorf("%s: the measure of a code is %d / %d", name, num, den)
	}
}

func TestKraftOf(t *testing.T) {
	for _, set := range append(shortSets(), longSets()...) {
		for letters := range int64(4) {
			checkMeasure(t, set, letters+1)
		}
	}
	for _, set := range [][]string{{"a"}, {longElement}, {"d", "cd"}, {"a", "ab", "ba"}, {"b", "ddd"}} {
		for _, letters := range badLetters {
			num, den, code := impl.KraftOf(set, letters)
			same(t, fmt.Sprintf("KraftOf %q %d", set, letters), `0 0 2`, num, den, code)
		}
	}
}

func TestKraftOfCases(t *testing.T) {
	check := func(words string, letters int64, want string) {
		t.Helper()
		num, den, code := impl.KraftOf(setOf(wordsFrom(words)), letters)
		same(t, fmt.Sprint("KraftOf ", words, letters), want, num, den, code)
	}
	check("ab ba abb", 2, `5 8 0`)
	check("ab ba abb", 3, `7 27 0`)
	check("ab ba abb", 4, `9 64 0`)
	check("ab ba abb", 1, `0 0 2`)
	check("a", 1, `1 1 0`)
	check("aaa", 1, `1 1 0`)
	check("a aa aaa", 1, `3 1 0`)
	check("a", 2, `1 2 0`)
	check("a b", 2, `2 2 0`) // a measure of 1, which is not reduced
	check("a b c d", 4, `4 4 0`)
	check("aa ab ba bb", 2, `4 4 0`)
	check("a ba bb", 2, `4 4 0`)
	check("a aa b", 2, `5 4 0`) // more than 1
	check("a b c d aa", 4, `17 16 0`)
	check("a ab bb", 2, `4 4 0`)
	check("a ab ba", 2, `4 4 0`) // 1, though the set is no code
	check("a b", 1, `0 0 2`)     // words with just the last letter that is allowed, and with the next one
	check("a b", 3, `2 3 0`)
	check("a c", 2, `0 0 2`)
	check("a c", 3, `2 3 0`)
	check("a bcb", 2, `0 0 2`)
	check("a bdb", 3, `0 0 2`)
	check("a bdb", 4, `17 64 0`)
	check("d", 3, `0 0 2`)
	check("d", 4, `1 4 0`)
	check(longElement, 4, `1 16777216 0`)
	check(longElement, 3, `0 0 2`)
	check("a "+longElement, 4, `4194305 16777216 0`)
	check("a b c d "+longElement, 4, `16777217 16777216 0`)
	check("a b c aaaaaaaaaaaa", 3, `531442 531441 0`)
	check("aaaaaaaaaaaa aaaaaaaaaaab", 2, `2 4096 0`)
	check("a b aaaaaaaaaaaa aaaaaaaaaaab", 2, `4098 4096 0`)
}
