package tests

import (
	"math"
	"math/big"
	"slices"
	"strings"
)

// wordsFrom returns the words of a text, which have blanks between them, "-" being the empty one.
func wordsFrom(text string) []string {
	var list []string
	for _, w := range strings.Fields(text) {
		list = append(list, strings.Trim(w, "-"))
	}
	return list
}

// powersOf returns the powers of a word with some exponents.
func powersOf(w string, exponents ...int) []string {
	var list []string
	for _, n := range exponents {
		list = append(list, strings.Repeat(w, n))
	}
	return list
}

// longElement is a word with as many letters as one of a set may have.
const longElement = "abcdabcdabcd"

// setsAmong returns all sets with so many words among some, which are in the order of words.
func setsAmong(words []string, least, most int) [][]string {
	var list [][]string
	var choose func(from int, chosen []string)
	choose = func(from int, chosen []string) {
		if len(chosen) >= least {
			list = append(list, slices.Clone(chosen))
		}
		for i := from; i < len(words) && len(chosen) < most; i++ {
			choose(i+1, append(chosen, words[i]))
		}
	}
	choose(0, nil)
	return list
}

// shortSets are all sets of up to four words of the letters a and b, each with at most three letters.
func shortSets() [][]string {
	return setsAmong(textsUpTo("ab", 3)[1:], 1, 4)
}

// longSets are sets with longer words, with more of them, and with other letters.
func longSets() [][]string {
	texts := []string{
		longElement, "a b c d", "d", "c d", "aa ab ac ad ba bb bc bd", "a aa aaa aaaa aaaaa aaaaaa aaaaaaa aaaaaaaa", "b ab aab aaab aaaab aaaaab aaaaaab aaaaaaab", "ab abc abcd", "a ab abc abcd", "a ab abc bcd", "abc abcd d", "a c ad abb bad dab bbcda",
		"a b c aad abca", "c ca cb abc", "b cab bac aba", "ab abb bba baab abbab", "a ab bb", "a ab bb bab", "aa ba aab abb bbb", "aab abb abba babab", "aaa bbb", "ab ba abab", "ab ac ad da dab dac", "abcd abcdabcd", "abcd cdab abcdab",
		"aaba baab abaabaabaab baabaabaabaa", "abaabaaa abaabaaba baabaabaab aabaabaabaa", "bab bababababa abababababab", "baaba abaab abaabaabaa aabaabaabaab", "abaabaab abaabaaba baabaabaab aabaabaabaa", "babababab bababababa abababababab", "aaba baabaabaab abaabaabaa aabaabaabaab",
		"abb abbab babba", "abcabc cabcab bcabca", "aaaaaab aaaaaabaaaaa", "aaaaab aaaaaba abaaaaab", "ad da dd dda", "c dc cd ddc", "aba abaab ababa abaababa", "abba abbabaab baababba",
	}
	var list [][]string
	for _, text := range texts {
		list = append(list, setOf(wordsFrom(text)))
	}
	for n := 1; n <= 12; n++ {
		for m := 1; m < n; m++ {
			list = append(list, powersOf("a", m, n))
		}
		list = append(list, powersOf("d", n))
	}
	return list
}

// badSets are lists that are no sets.
func badSets() [][]string {
	list := [][]string{
		nil, {}, {""}, {"", "a"}, {"a", ""}, {"ab", "a"}, {"b", "a"}, {"a", "a"}, {"a", "b", "b"}, {"a", "b", "ab", "aa"}, {"a", "b", "aa", "b"}, {"aaa", "ab", "b"}, {"b", "ab", "aab", "aaa"},
		{"a", "b", "c", "d", "aa", "ab", "ac", "ad", "ba"}, powersOf("a", 1, 2, 3, 4, 5, 6, 7, 8, 9), make([]string, 100000), slices.Repeat([]string{"a"}, 100000), powersOf("a", 13), powersOf("b", 1, 2, 13), {"a", longElement + "a"},
	}
	for _, w := range noWords() {
		list = append(list, []string{w}, []string{"a", w}, []string{w, "dddd"})
	}
	return list
}

// badImages are lists that are no images.
func badImages() [][]string {
	list := [][]string{nil, {}, {"a"}, {"a", "b", "c"}, {"a", "b", "c", "d", ""}, {"", "", "", "", ""}, {"", "", ""}, make([]string, 100000)}
	for x := range 4 {
		for _, w := range append(noWords(), "aaaaaaaaa", "abcdabcda", sixty) {
			f := []string{"a", "", "abcdabcd", "d"}
			f[x] = w
			list = append(list, f)
		}
	}
	return list
}

// badLetters are numbers of letters that are none.
var badLetters = []int64{0, 5, -1, -4, math.MinInt64, math.MaxInt64, 1 << 32}

// isSetByHand reports whether a list is a set, as the document says it.
func isSetByHand(list []string) bool {
	for i, w := range list {
		if w == "" || len(w) > 12 || strings.Trim(w, "abcd") != "" || i > 0 && !before(list[i-1], w) {
			return false
		}
	}
	return len(list) > 0 && len(list) <= 8
}

// countByHand returns the number of decodings of a text, from its beginning on.
func countByHand(set []string, text string) int64 {
	counts := make([]int64, len(text)+1)
	counts[0] = 1
	for i := range text {
		for _, w := range set {
			if strings.HasPrefix(text[i:], w) {
				counts[i+len(w)] += counts[i]
			}
		}
	}
	return counts[len(text)]
}

// decodingsByHand returns all decodings of a text, which are found from its end on and then put in order.
func decodingsByHand(set []string, text string) [][]int64 {
	var list [][]int64
	var find func(end int, behind []int64)
	find = func(end int, behind []int64) {
		if end == 0 {
			list = append(list, behind)
		}
		for i, w := range set {
			if strings.HasSuffix(text[:end], w) && countByHand(set, text[:end-len(w)]) > 0 {
				find(end-len(w), append([]int64{int64(i)}, behind...))
			}
		}
	}
	find(len(text), nil)
	slices.SortFunc(list, slices.Compare[[]int64])
	return list
}

// firstTwiceByHand returns the first text with two decodings, and an empty one of a code. Two readers go through a text
// letter by letter, each knowing what is left of its word; of the texts of one length that leave the same, only the
// first one is looked at further.
func firstTwiceByHand(set []string) string {
	if isCodeByHand(set) {
		return ""
	}
	first := map[[2]string]string{}
	for i, v := range set {
		for _, w := range set[i+1:] {
			first[[2]string{v, w}] = ""
		}
	}
	words := func(left string) []string {
		if left == "" {
			return set
		}
		return []string{left}
	}
	for {
		next := map[[2]string]string{}
		for left, text := range first {
			for _, v := range words(left[0]) {
				for _, w := range words(left[1]) {
					behind, longer := [2]string{v[1:], w[1:]}, text+v[:1]
					if known, ok := next[behind]; v[0] == w[0] && (!ok || longer < known) {
						next[behind] = longer
					}
				}
			}
		}
		if text, ok := next[[2]string{}]; ok {
			return text
		}
		first = next
	}
}

// imageByHand returns the image of a word, of any length.
func imageByHand(f []string, w string) string {
	return strings.NewReplacer("a", f[0], "b", f[1], "c", f[2], "d", f[3]).Replace(w)
}

// equalByHand returns all words with at least one and at most so many letters that have equal images.
func equalByHand(f, g []string, letters, length int) []string {
	return slices.DeleteFunc(textsUpTo("abcd"[:letters], length)[1:], func(w string) bool { return imageByHand(f, w) != imageByHand(g, w) })
}

// primesByHand returns those words of a list that are not made of two or more others of it.
func primesByHand(list []string) []string {
	return slices.DeleteFunc(slices.Clone(list), func(w string) bool {
		return isMadeOf(w, slices.DeleteFunc(slices.Clone(list), func(v string) bool { return v == w }))
	})
}

// measureByHand returns the measure of a set.
func measureByHand(set []string, letters int64) *big.Rat {
	sum := new(big.Rat)
	for _, w := range set {
		part := big.NewRat(1, 1)
		for range len(w) {
			part.Mul(part, big.NewRat(1, letters))
		}
		sum.Add(sum, part)
	}
	return sum
}

// fewImages are images of all kinds.
func fewImages() [][]string {
	var list [][]string
	for _, text := range []string{
		"- - - -", "a b c d", "d c b a", "b a - -", "a b - -", "ab - - -", "a ab ba b", "ab ba abb -", "aa ab ba bb", "a aa - aaa", "a b a b", "abcdabcd abcdabcd abcdabcd abcdabcd", "abcdabcd - a -", "- a b c", "c - - cc",
		"a - - -", "aab b ab a", "ab c d abcd", "aa a aa a", "aba ab a b", "ba ab ba ab", "- - - d", "- b a aba", "aba b a -", "b bb abab aaa",
	} {
		list = append(list, wordsFrom(text))
	}
	return list
}

// lettersOf returns images that are powers of the letter a with such lengths, the others being empty.
func lettersOf(lengths ...int) []string {
	return append(powersOf("a", lengths...), make([]string, 4-len(lengths))...)
}
