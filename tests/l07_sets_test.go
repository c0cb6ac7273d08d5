package tests

import (
	"fmt"
	"math/big"
	"slices"
	"strings"
	"testing"

	"loop.example/g01143/impl"
)

func TestValidSet(t *testing.T) {
	for _, set := range append(shortSets(), longSets()...) {
		if !impl.ValidSet(set) {
			t.Errorf("%q is not valid", set)
		}
	}
	for i, list := range badSets() {
		if impl.ValidSet(list) {
			t.Errorf("bad set %d is valid: %.100q", i, list)
		}
	}
	some := append(textsUpTo("ab", 2), longElement, longElement+"d", "d", "dd", "e")
	for _, u := range some {
		for _, v := range some {
			for _, w := range some {
				for _, list := range [][]string{{u}, {u, v}, {u, v, w}} {
					if got := impl.ValidSet(list); got != isSetByHand(list) {
						t.Errorf("ValidSet %q: got %v", list, got)
					}
				}
			}
		}
	}
	eight := append(powersOf("a", 1, 2, 3, 4, 5, 6, 7), longElement)
	if !impl.ValidSet(eight) || impl.ValidSet(append(slices.Clone(eight), "ddddcccccccc")) {
		t.Error("eight words, or nine")
	}
}

// TestBadSets gives all functions of a set lists that are none, which comes ahead of all other errors.
func TestBadSets(t *testing.T) {
	lists := [][]int64{nil, {0}, {-1}, make([]int64, 100)}
	for i, bad := range badSets() {
		name := fmt.Sprintf("bad set %d: %.50q", i, bad)
		one, c1 := impl.IsPrefixFree(bad)
		two, c2 := impl.IsSuffixFree(bad)
		three, c3 := impl.IsCode(bad)
		w, first, second, c4 := impl.FirstTwice(bad)
		hull, c5 := impl.HullOf(bad)
		rank, c6 := impl.RankOf(bad)
		same(t, name, `false 1 false 1 false 1 "" [] [] 1 [] 1 0 1`, one, c1, two, c2, three, c3, w, first, second, c4, hull, c5, rank, c6)
		for k, text := range []string{"", "a", "aa", "e"} {
			n, c1 := impl.CountDecodings(bad, text)
			list, c2 := impl.DecodingsOf(bad, text)
			in, c3 := impl.InHull(bad, text)
			decoded, c4 := impl.DecodedWord(bad, lists[k])
			num, den, c5 := impl.KraftOf(bad, []int64{1, 4, 0, 5}[k])
			same(t, name, `0 1 [] 1 [] 1 "" 1 0 0 1`, n, c1, list, c2, in, c3, decoded, c4, num, den, c5)
		}
	}
}

// freeByHand tells whether no word of a set is at the beginning, and whether none is at the end of another one.
func freeByHand(set []string) (bool, bool) {
	prefix, suffix := true, true
	for _, v := range set {
		for _, w := range set {
			if n := len(v); n < len(w) {
				prefix = prefix && w[:n] != v
				suffix = suffix && w[len(w)-n:] != v
			}
		}
	}
	return prefix, suffix
}

// checkSet compares what is told of a set as a code with models; a code is looked at together with its measure and hull.
func checkSet(t *testing.T, set []string) {
	t.Helper()
	name := fmt.Sprintf("%q", set)
	prefixFree, c1 := impl.IsPrefixFree(set)
	suffixFree, c2 := impl.IsSuffixFree(set)
	code, c3 := impl.IsCode(set)
	prefix, suffix := freeByHand(set)
	isCode := isCodeByHand(set)
	same(t, "codes of "+name, fmt.Sprint(prefix, " 0 ", suffix, " 0 ", isCode, " 0"), prefixFree, c1, suffixFree, c2, code, c3)
	if (prefix || suffix) && !code {
		t.Errorf("%s is free, but not a code", name)
	}
	w, first, second, c4 := impl.FirstTwice(set)
	if isCode {
		same(t, "FirstTwice of "+name, `"" [] [] 6`, w, first, second, c4)
		if measureByHand(set, 4).Cmp(big.NewRat(1, 1)) > 0 {
			t.Errorf("%s is a code with a measure greater than 1", name)
		}
		return
	}
	want := firstTwiceByHand(set)
	if len(want) > 60 {
		same(t, "FirstTwice of "+name, `"" [] [] 3`, w, first, second, c4)
		return
	}
	list := decodingsByHand(set, want)
	same(t, "FirstTwice of "+name, fmt.Sprintf("%q %v %v 0", want, list[0], list[1]), w, first, second, c4)
	// If the first or the last words were the same, a shorter word would have two decodings.
	if first[0] == second[0] || first[len(first)-1] == second[len(second)-1] {
		t.Errorf("%s: the decodings %v and %v of the first word", name, first, second)
	}
}

func TestSetsAsCodes(t *testing.T) {
	codes, both, one, neither, twice := 0, 0, 0, 0, 0
	for _, set := range append(shortSets(), longSets()...) {
		checkSet(t, set)
		prefix, suffix := freeByHand(set)
		switch {
		case !isCodeByHand(set):
			twice++
		case prefix && suffix:
			both++
		case prefix || suffix:
			one++
		default:
			neither++
		}
		codes++
	}
	if min(both, one, neither, twice) < 8 {
		t.Errorf("of %d sets, too few of a kind: %d %d %d %d", codes, both, one, neither, twice)
	}
}

// TestSetsAsCodesFirst compares the first word with two decodings with the first one among all short words.
func TestSetsAsCodesFirst(t *testing.T) {
	words := textsUpTo("ab", 8)
	longer := 0
	for _, set := range append(shortSets(), setsAmong(textsUpTo("ab", 4)[1:], 2, 3)...) {
		want := slices.IndexFunc(words, func(w string) bool { return countByHand(set, w) > 1 })
		got, _, _, code := impl.FirstTwice(set)
		isCode, _ := impl.IsCode(set)
		if want >= 0 && got != words[want] || want < 0 && code == impl.OK && len(got) <= 8 || isCode != (code == impl.ErrNotFound) {
			t.Errorf("FirstTwice %q: got %q, %d", set, got, code)
		}
		if len(got) > 8 {
			longer++
		}
	}
	if longer == 0 || longer > 20 {
		t.Errorf("the first words of %d sets are longer", longer)
	}
}

func TestSetsAsCodesMany(t *testing.T) {
	for _, set := range setsAmong(textsUpTo("ab", 2)[1:], 5, 6) {
		checkSet(t, set)
	}
	for i, set := range setsAmong(textsUpTo("ab", 3)[1:], 5, 8) {
		if i%23 == 0 {
			checkSet(t, set)
		}
	}
	for i, set := range setsAmong(textsUpTo("abcd", 2)[1:], 2, 5) {
		if i%19 == 0 {
			checkSet(t, set)
		}
	}
	// Parts of one text with a period meet late.
	for i, set := range setsAmong(setOf(strings.Fields("aab aba baa aabaab abaaba baabaa aabaabaa baabaab abaabaabaa aabaabaabaab aaba abaab baabaaba abaabaabaaba")), 2, 4) {
		if i%3 == 0 {
			checkSet(t, set)
		}
	}
}

func TestIsPrefixFreeCases(t *testing.T) {
	cases := []struct {
		words string
		want  string
	}{
		{"a", "true true true"}, {"abab", "true true true"}, {longElement, "true true true"}, // one word
		{"a aa", "false false false"}, {"ab abab", "false false false"}, {"aa aaa", "false false false"}, // two that commute
		{"a b", "true true true"}, {"a ab", "false true true"}, {"b ab", "true false true"}, {"ab aba", "false true true"}, {"ab aab", "true false true"}, {"ab abaab", "false false true"}, {"aab aabbaab", "false false true"}, // two that do not
		{"a b c d", "true true true"}, {"aa ab ba bb", "true true true"}, {"aaa aab abb bbb", "true true true"}, // all of one length
		{"b aba aabaa", "true true true"}, {"b aab", "true false true"}, {"a bab", "true true true"}, // a word amidst of another one
		{"ab ba abb", "false true true"}, {"ab ba aab", "true false true"}, {"a ab bb", "false true true"}, {"b ab aa", "true false true"}, {"ab abb bba", "false true true"},
		{"a ab ba", "false false false"}, {"a b ab", "false false false"}, {"a ab abb b", "false false false"}, {"ab abc c", "false false false"}, {"a ab bc abc", "false false false"}, {"ab aba abab", "false false false"}, {"ab ba bab aba", "false false false"},
		{"aab ab abb", "false false true"}, {"aab ab abba", "false false true"}, {"ba aba abab", "false false false"}, {"abc bcd cda dabc", "true false true"}, {"b abb abbba bbba", "false false false"}, {"bb abb bbba", "false false true"},
		{"a ba bbb bba", "true false true"}, {"b ab abb", "false false false"}, {"a b c d aa", "false false false"}, {"b ba bba bbba aa", "false false false"},
	}
	for _, c := range cases {
		set := setOf(wordsFrom(c.words))
		prefix, c1 := impl.IsPrefixFree(set)
		suffix, c2 := impl.IsSuffixFree(set)
		code, c3 := impl.IsCode(set)
		same(t, c.words, c.want+" 0 0 0", prefix, suffix, code, c1, c2, c3)
		checkSet(t, set)
	}
}

// TestTwoWords makes sure that two words are a code just if they do not commute.
func TestTwoWords(t *testing.T) {
	for _, set := range append(setsAmong(textsUpTo("ab", 4)[1:], 2, 2), setsAmong(setOf(strings.Fields("ab abab ababab abababab aba abaaba abaabaaba aab aabaab aabaabaab aabaabaabaab")), 2, 2)...) {
		commute, _ := impl.Commute(set[0], set[1])
		code, c := impl.IsCode(set)
		same(t, fmt.Sprintf("IsCode %q", set), fmt.Sprint(!commute, " 0"), code, c)
	}
}

func TestFirstTwiceCases(t *testing.T) {
	check := func(words, want string) {
		t.Helper()
		set := setOf(wordsFrom(words))
		w, first, second, code := impl.FirstTwice(set)
		same(t, "FirstTwice "+words, want, w, first, second, code)
	}
	check("a ab ba", `"aba" [0 2] [1 0] 0`)
	check("a aa", `"aa" [0 0] [1] 0`)
	check("aa aaa", `"aaaaa" [0 1] [1 0] 0`)
	check("a b ab", `"ab" [0 1] [2] 0`)
	// Of several words of one length that have two decodings, the first one as a text is told.
	check("a b ba bb", `"ba" [1 0] [2] 0`)
	check("a b aa bb", `"aa" [0 0] [2] 0`)
	check("a b c d ad bd cb", `"ad" [0 3] [4] 0`)
	check("a ab bc c bcd d", `"abc" [0 4] [3 1] 0`)
	check("a b c d cab dab", `"cab" [2 0 1] [4] 0`)
	check("ba ab bab abb", `"abbab" [0 3] [2 0] 0`)
	// Of a shorter one and a longer one, it is the shorter one, though it comes behind the other one as a text, or is
	// made of more words.
	check("a b d bd accc ccc", `"bd" [1 2] [3] 0`)
	check("a d bc bd abcbd cccccc dcccccc", `"abcbd" [0 2 3] [4] 0`)
	check("c d ca ab bd abbbbb dabbbbb", `"cabd" [0 2 1] [4 3] 0`)
	check("a ac cd d ccc", `"acd" [0 3] [2 1] 0`)
	// Words with more than two decodings: the first two of them are told.
	check("ab cd abc d a bcd", `"abcd" [0 5] [2 3] 0`)
	check("abcd ab cd abc d a bcd", `"abcd" [0 5] [2 3] 0`)
	check("abcd cd abc ab d", `"abcd" [1 2] [3 0] 0`)
	check("aba ab a ba abab bab", `"aba" [0 2] [1 0] 0`)
	check("a aa aaa aaaa", `"aa" [0 0] [1] 0`)
	// Two decodings of a longer word that begin with the same index are no first ones.
	check("a ab bc c", `"abc" [0 3] [2 1] 0`)
	check("d da a ab bc c b", `"ab" [0 1] [4] 0`)
}

// TestFirstTwiceLong looks at first words with about as many letters as a word may have.
func TestFirstTwiceLong(t *testing.T) {
	lengths := map[string]int{
		"aaabaaabaa abaaab baaabaaabaaa baaaba aaabaaabaaa": 59, "aaba baab abaabaabaab baabaabaabaa": 60, "baabaab aabaabaaba baabaabaabaa abaabaabaab": 60, "abaabaab abaabaaba baabaabaab aabaabaabaa": 61, "baababaabab babaababaa abaababaab ababaababaa aababa ababaaba": 61,
		"baabaabaabaa abaab aabaabaaba abaabaa": 62, "bab bababababa abababababab": 63, "baaba abaab abaabaabaa aabaabaabaab": 64, "baababaababa abaababaaba babaababaab ababaababaa ababaabab aababaabab": 99,
	}
	for words, want := range lengths {
		checkLongTwice(t, setOf(wordsFrom(words)), want)
	}
	for n := 2; n <= 12; n++ {
		for m := 1; m < n; m++ {
			// Powers of one word commute, if the one is not a power of the other.
			want := n + m
			if n%m == 0 {
				want = n
			}
			checkLongTwice(t, powersOf("c", m, n), want)
		}
	}
}

// checkLongTwice compares the length of the first word with two decodings with a wanted one.
func checkLongTwice(t *testing.T, set []string, want int) {
	t.Helper()
	checkSet(t, set)
	w, first, second, code := impl.FirstTwice(set)
	n := len(firstTwiceByHand(set))
	if n != want || (code == impl.OK) != (n <= 60) || code != impl.OK && code != impl.ErrLimit {
		t.Errorf("FirstTwice %q: got %q, %v, %v, %d; by hand, it has %d letters, not %d", set, w, first, second, code, n, want)
	}
}
