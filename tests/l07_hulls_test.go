package tests

import (
	"fmt"
	"slices"
	"strings"
	"testing"

	"loop.example/g01143/impl"
)

// madeWords are words of which others are made: those that are words of a code, and those that are made of it, as bits.
type madeWords struct {
	code []string
	own  int
	made int
}

// bitsOf returns the bits of those words of a list that are asked for.
func bitsOf(words []string, asked func(w string) bool) int {
	bits := 0
	for i, w := range words {
		if asked(w) {
			bits |= 1 << i
		}
	}
	return bits
}

// codesAmong returns all codes of some words. (All words of a code but some are a code, too.)
func codesAmong(words []string) []madeWords {
	var list []madeWords
	var choose func(from int, chosen []string)
	choose = func(from int, chosen []string) {
		if !isCodeByHand(chosen) {
			return
		}
		if len(chosen) > 0 {
			code := slices.Clone(chosen)
			list = append(list, madeWords{code, bitsOf(words, func(w string) bool { return slices.Contains(code, w) }), bitsOf(words, func(w string) bool { return isMadeOf(w, code) })})
		}
		for i := from; i < len(words); i++ {
			choose(i+1, append(chosen, words[i]))
		}
	}
	choose(0, nil)
	return list
}

// hullAmong returns the code of which a set, given by bits, is made, and which is made of all others of which it is.
func hullAmong(codes []madeWords, set int) []string {
	common := -1
	for _, c := range codes {
		if set&^c.made == 0 {
			common &= c.made
		}
	}
	i := slices.IndexFunc(codes, func(c madeWords) bool { return set&^c.made == 0 && c.own&^common == 0 })
	return codes[i].code
}

// checkHull compares a hull with a wanted one, and makes sure that it is what a hull should be.
func checkHull(t *testing.T, set, want []string) {
	t.Helper()
	name := fmt.Sprintf("of %q", set)
	hull, c1 := impl.HullOf(set)
	rank, c2 := impl.RankOf(set)
	isCode, _ := impl.IsCode(set)
	same(t, "HullOf, RankOf "+name, fmt.Sprintf("%q 0 %d 0", want, len(want)), hull, c1, rank, c2)
	if !slices.Equal(hull, setOf(hull)) || !isCodeByHand(hull) || !areMadeOf(set, hull) {
		t.Errorf("the hull %q %s is no code in order of which it is made", hull, name)
	}
	if isCode && !slices.Equal(hull, set) || !isCode && len(hull) >= len(set) {
		t.Errorf("the hull %q %s, which is a code: %v", hull, name, isCode)
	}
	if len(set) <= 4 {
		ofValues, c3 := impl.RankOfValues(values(set...))
		same(t, "RankOfValues "+name, fmt.Sprint(rank, " 0"), ofValues, c3)
	}
	for _, w := range set {
		in, code := impl.InHull(set, w)
		word, _ := impl.DecodedWord(hull, in)
		same(t, fmt.Sprintf("InHull %s and %q", name, w), fmt.Sprintf("0 %q", w), code, word)
	}
}

// TestHulls compares hulls with those that are found among all codes of short words.
func TestHulls(t *testing.T) {
	words := textsUpTo("ab", 3)[1:]
	codes := codesAmong(words)
	for i, set := range append(shortSets(), setsAmong(words, 5, 8)...) {
		if len(set) <= 4 || i%5 == 0 {
			checkHull(t, set, hullAmong(codes, bitsOf(words, func(w string) bool { return slices.Contains(set, w) })))
		}
	}
	words = setOf(strings.Fields("a b c ab bc ca ac abc bca cab aba abab bab"))
	codes = codesAmong(words)
	// All parts of the words of these sets are among them.
	for _, set := range setsAmong(setOf(strings.Fields("a ab bc ca abc bca cab c")), 2, 6) {
		checkHull(t, set, hullAmong(codes, bitsOf(words, func(w string) bool { return slices.Contains(set, w) })))
	}
}

// TestHullsByHand looks at some sets of longer words, for each of which all codes of parts of them are tried.
func TestHullsByHand(t *testing.T) {
	for _, text := range []string{"ab abab ababab", "aba abaab ab", "abab ba bab", "aabb abba bb", "abba bab ab", "aaab aab ab", "aaaa aaaaaa", "abcab cab ab", "abcd cd abc", "abaab ab aabab"} {
		set := setOf(wordsFrom(text))
		checkHull(t, set, setOf(hullByHand(set)))
	}
}

// hullBySteps returns the hull as the document says that it is found, by the first word with two decodings.
func hullBySteps(set []string) []string {
	for {
		set = setOf(set)
		w := firstTwiceByHand(set)
		if w == "" {
			return set
		}
		list := decodingsByHand(set, w)
		short, long := list[0][0], list[1][0]
		if len(set[short]) > len(set[long]) {
			short, long = long, short
		}
		set[long] = set[long][len(set[short]):]
	}
}

func TestHullsLong(t *testing.T) {
	for _, set := range longSets() {
		want := hullBySteps(set)
		checkHull(t, set, want)
		checkHull(t, want, want)
	}
	// Parts of one text with a period.
	for i, set := range setsAmong(setOf(strings.Fields("aab aba baa aabaab abaaba baabaa aabaabaa baabaab abaabaabaa aabaabaabaab aaba abaab baabaaba abaabaabaaba")), 2, 8) {
		if i%31 == 0 {
			checkHull(t, set, hullBySteps(set))
		}
	}
}

func TestHullOfCases(t *testing.T) {
	cases := map[string]string{
		// Codes.
		"a": "a", longElement: longElement, "a b": "a b", "ab ba abb": "ab ba abb", "a b c d": "a b c d", "aa ab ba bb": "aa ab ba bb", "ab aab aaab": "ab aab aaab", "a ab bb": "a ab bb", "ab abb bba": "ab abb bba",
		// Hulls that arise by one step.
		"a ab ba": "a b", "a b ab": "a b", "ab abc c": "c ab", "ab abcd cd": "ab cd", "abc d abcd": "d abc", "a aa": "a", "ab abab": "ab", "b ab abb": "b ab", "aab aabab ab": "ab aab",
		// By several steps.
		"aa aaa": "a", "abab ababab": "ab", "aba abaab ab": "ab aba", "aab aabaab aabaabb b": "b aab", "a ab abb abbb b": "a b", "ab abc abcab cab": "c ab", "abcab abcabd d ab": "d ab abcab",
		"a b c d ab bc cd abcd": "a b c d", "a abc bcd d bc": "a d bc", "aaaaaaa aaaaaaaaaaa": "a", "abba abbaabba abbaabbaabba": "abba", "aaba baab abaabaabaab baabaabaabaa": "a b",
	}
	for words, want := range cases {
		checkHull(t, setOf(wordsFrom(words)), wordsFrom(want))
	}
	// One word, of all powers of it.
	for n := 2; n <= 12; n++ {
		for m := 1; m < n; m++ {
			divisor := n
			for m%divisor+n%divisor > 0 {
				divisor--
			}
			checkHull(t, powersOf("a", m, n), powersOf("a", divisor))
			if n <= 4 {
				checkHull(t, powersOf("abb", m, n), powersOf("abb", divisor))
			}
		}
	}
	checkHull(t, powersOf("a", 5, 6, 7, 8, 9, 10, 11, 12), powersOf("a", 1))
	checkHull(t, powersOf("a", 4, 6, 8, 10, 12), powersOf("a", 2))
	checkHull(t, powersOf("d", 6, 9, 12), powersOf("d", 3))
}

func TestInHull(t *testing.T) {
	words := textsUpTo("ab", 5)
	none, some := 0, 0
	for i, set := range shortSets() {
		if i%4 > 0 {
			continue
		}
		hull, _ := impl.HullOf(set)
		for _, w := range words {
			in, code := impl.InHull(set, w)
			want := "[] 6"
			if list := decodingsByHand(hull, w); len(list) == 1 {
				want = fmt.Sprint(list[0], " 0")
			}
			same(t, fmt.Sprintf("InHull %q %q", set, w), want, in, code)
			if code == impl.OK && !isMadeOf(w, set) {
				some++
			}
			if code != impl.OK {
				none++
			}
		}
	}
	if min(none, some) < 1000 {
		t.Errorf("%d words are made of hulls, but not of sets, and %d of neither", some, none)
	}
}

func TestInHullCases(t *testing.T) {
	check := func(words, w, want string) {
		t.Helper()
		in, code := impl.InHull(setOf(wordsFrom(words)), w)
		same(t, "InHull of "+words+" and "+w, want, in, code)
	}
	check("a ab ba", "", `[] 0`)
	check("ab", "", `[] 0`)
	check("a ab ba", "a", `[0] 0`)
	check("a ab ba", "ba", `[1 0] 0`)
	check("a ab ba", "bb", `[1 1] 0`) // not made of the set
	check("a ab ba", "c", `[] 6`)     // other letters
	check("a ab ba", "abcab", `[] 6`)
	check("ab ba abb", "abbab", `[2 0] 0`)
	check("ab ba abb", "bb", `[] 6`)
	check("ab abc c", "cab", `[0 1] 0`)
	check("ab abc c", "a", `[] 6`) // neither
	check("ab abc c", "cba", `[] 6`)
	check("ab abc c", "aba", `[] 6`)
	check("aaaa aaaaaa", "aa", `[0] 0`)
	check("aaaa aaaaaa", strings.Repeat("a", 58), fmt.Sprint(make([]int64, 29), " 0"))
	check("aaaa aaaaaa", strings.Repeat("a", 59), `[] 6`)
	check("aaaa aaaaaa", strings.Repeat("a", 60), fmt.Sprint(make([]int64, 30), " 0"))
	check("a aa aaa aaaa aaaaa aaaaaa aaaaaaa aaaaaaaa", strings.Repeat("a", 60), fmt.Sprint(make([]int64, 60), " 0"))
	check("d "+longElement, sixty, `[1 1 1 1 1] 0`)
	check("abcd "+longElement, sixty, fmt.Sprint(make([]int64, 15), " 0"))
}
