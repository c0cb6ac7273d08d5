package tests

import (
	"fmt"
	"slices"
	"strings"
	"testing"

	"loop.example/g01143/impl"
)

// powers returns a family.
func powers(root, tail string, from int64) impl.Powers {
	return impl.Powers{Root: root, Tail: tail, From: from}
}

// described returns a description with some words, which have blanks between them, "-" being the empty one, and families.
func described(words string, families ...impl.Powers) impl.OneSolutions {
	x := impl.OneSolutions{Families: families}
	for _, w := range strings.Fields(words) {
		x.Words = append(x.Words, strings.Trim(w, "-"))
	}
	return x
}

// every is the description of every word.
func every() impl.OneSolutions {
	return impl.OneSolutions{Every: true}
}

// told returns the text of a description: "every", words, "-" being the empty one, and families like "(ab)2a".
func told(x impl.OneSolutions) string {
	var parts []string
	if x.Every {
		parts = append(parts, "every")
	}
	for _, w := range x.Words {
		if w == "" {
			w = "-"
		}
		parts = append(parts, w)
	}
	for _, f := range x.Families {
		parts = append(parts, fmt.Sprintf("(%s)%d%s", f.Root, f.From, f.Tail))
	}
	return strings.Join(parts, " ")
}

// pair returns the two terms of an equation from its text.
func pair(text string) []string {
	e := equation(text)
	return []string{e.Left, e.Right}
}

// pairsOf returns the pairs of terms of equations from their texts.
func pairsOf(texts ...string) [][]string {
	var list [][]string
	for _, text := range texts {
		list = append(list, pair(text))
	}
	return list
}

// withX returns the text that a term becomes by a word in the place of X.
func withX(term, x string) string {
	return strings.ReplaceAll(term, "X", x)
}

// solvesAll reports whether a word is a solution of pairs of terms.
func solvesAll(pairs [][]string, x string) bool {
	for _, p := range pairs {
		if withX(p[0], x) != withX(p[1], x) {
			return false
		}
	}
	return true
}

// joinedPlaces returns numbers of the letters "a" to "d" and of the places of a word with so many letters, equal ones
// being those that are the same in all solutions of pairs of terms; false if the sides have different lengths.
func joinedPlaces(pairs [][]string, length int) ([]int, bool) {
	var colours []int
	for i := range 4 + length {
		colours = append(colours, i)
	}
	placesIn := func(term string) []int {
		var list []int
		for _, c := range term {
			if c != 'X' {
				list = append(list, strings.IndexRune("abcd", c))
				continue
			}
			for i := range length {
				list = append(list, 4+i)
			}
		}
		return list
	}
	for _, p := range pairs {
		left, right := placesIn(p[0]), placesIn(p[1])
		if len(left) != len(right) {
			return nil, false
		}
		for i := range left {
			from, to := colours[left[i]], colours[right[i]]
			for k := range colours {
				if from != to && colours[k] == max(from, to) {
					colours[k] = min(from, to)
				}
			}
		}
	}
	return colours, true
}

// solutionByHand returns the solution of pairs of terms with a length, "every" if all words of the length are
// solutions, and false if there is none. The letters of X are found by joining places.
func solutionByHand(pairs [][]string, length int) (string, bool) {
	colours, ok := joinedPlaces(pairs, length)
	if !ok || !slices.Equal(colours[:4], []int{0, 1, 2, 3}) {
		return "", false
	}
	word, free := "", 0
	for i, c := range colours[4:] {
		if c < 4 {
			word += "abcd"[c : c+1]
		} else if c == 4+i {
			free++
		}
	}
	switch {
	case free == 0:
		return word, true
	case free == length:
		return "every", true
	}
	panic(fmt.Sprintf("some letters of a solution of %q with %d are free", pairs, length))
}

// wordsByHand returns all words with a length of a description other than that of every word, in their order.
func wordsByHand(x impl.OneSolutions, length int) []string {
	var list []string
	for _, w := range x.Words {
		if len(w) == length {
			list = append(list, w)
		}
	}
	for _, f := range x.Families {
		for k := int(f.From); k*len(f.Root)+len(f.Tail) <= length; k++ {
			if w := strings.Repeat(f.Root, k) + f.Tail; len(w) == length {
				list = append(list, w)
			}
		}
	}
	slices.Sort(list)
	return list
}

// before reports whether a word comes before another one in the order of words.
func before(v, w string) bool {
	return len(v) < len(w) || len(v) == len(w) && v < w
}

// isValidByHand reports whether a description is valid, as the document says it.
func isValidByHand(x impl.OneSolutions) bool {
	if x.Every {
		return len(x.Words)+len(x.Families) == 0
	}
	for i, w := range x.Words {
		if len(w) > 60 || strings.Trim(w, "abcd") != "" || i > 0 && !before(x.Words[i-1], w) {
			return false
		}
	}
	for i, f := range x.Families {
		// A word is the root of itself if it does not stand amidst of itself written twice.
		primitive := f.Root != "" && strings.Index((f.Root + f.Root)[1:], f.Root) == len(f.Root)-1
		if !primitive || len(f.Root) > 60 || strings.Trim(f.Root, "abcd") != "" || f.From < 0 || f.From > 60 {
			return false
		}
		if len(f.Tail) >= len(f.Root) || f.Root[:len(f.Tail)] != f.Tail {
			return false
		}
		if i > 0 && (f.Root != x.Families[i-1].Root || len(f.Tail) <= len(x.Families[i-1].Tail)) {
			return false
		}
		for k := max(f.From-1, 0); k <= 60; k++ {
			if slices.Contains(x.Words, strings.Repeat(f.Root, int(k))+f.Tail) {
				return false
			}
		}
	}
	return len(x.Families) <= 40
}

// checkDescription fails the test unless a description is a valid one of just the solutions of pairs of terms, among
// all words with up to so many letters.
func checkDescription(t *testing.T, pairs [][]string, most int, x impl.OneSolutions, code int64) {
	t.Helper()
	if code != impl.OK || !impl.ValidSolutions(x) || !isValidByHand(x) {
		t.Errorf("%q: got %s, %d, which is not valid", pairs, told(x), code)
		return
	}
	for length := range most + 1 {
		want, ok := solutionByHand(pairs, length)
		got := wordsByHand(x, length)
		switch {
		case x.Every:
			ok = ok && (want == "every" || length == 0)
		case ok:
			ok = slices.Equal(got, []string{want})
		default:
			ok = len(got) == 0
		}
		if !ok {
			t.Errorf("%q: got %s, with the words %q of the length %d, want %q", pairs, told(x), got, length, want)
			return
		}
	}
}

// checkAsked fails the test unless all questions about a valid description get the right answers.
func checkAsked(t *testing.T, x impl.OneSolutions) {
	t.Helper()
	first, count := "none", 0
	for length := range 61 {
		list := wordsByHand(x, length)
		count += len(list)
		got, code := impl.CountWords(x, int64(length))
		same(t, fmt.Sprintf("CountWords of %s and %d", told(x), length), fmt.Sprint(count)+" 0", got, code)
		w, code := impl.SolutionOfLength(x, int64(length))
		want := `"" 6`
		if len(list) > 0 {
			want = fmt.Sprintf("%q 0", list[0])
		}
		same(t, fmt.Sprintf("SolutionOfLength of %s and %d", told(x), length), want, w, code)
		if first == "none" && len(list) > 0 {
			first = list[0]
		}
		for _, w := range list {
			has, code := impl.HasSolution(x, w)
			same(t, fmt.Sprintf("HasSolution of %s and %s", told(x), w), `true 0`, has, code)
		}
	}
	w, code := impl.FirstSolution(x)
	want := fmt.Sprintf("%q 0", first)
	if count == 0 && len(x.Families) > 0 {
		want = `"" 3`
	} else if count == 0 {
		want = `"" 6`
	}
	same(t, "FirstSolution of "+told(x), want, w, code)
}

// waysToWrite returns the terms that become a text by a word in the place of X.
func waysToWrite(text, x string) []string {
	if text == "" {
		return []string{""}
	}
	var list []string
	for _, rest := range waysToWrite(text[1:], x) {
		list = append(list, text[:1]+rest)
	}
	if rest, ok := strings.CutPrefix(text, x); ok {
		for _, rest := range waysToWrite(rest, x) {
			list = append(list, "X"+rest)
		}
	}
	return list
}

// onePairs are equations of all kinds, also such with long terms.
func onePairs() [][]string {
	list := pairsOf(
		" = ", "X = ", " = X", "X = X", "a = a", "a = b", "a = ", " = d", "X = a", "abcd = X", "XX = ", "XaX = ", "aX = Xb", "aX = bX", "Xa = Xb", "XX = X", "X = XXX",
		"Xab = abX", "Xba = abX", "Xaba = aabX", "Xaab = abaX", "XaabXa = aabXaX", "abXaXbX = XXaXbab", "ababbaXX = aXaXbabb", "XabXaXaba = abaabXaXX", "XaXbab = abaXbX",
		"XX = aa", "XX = aaa", "XXX = aaab", "XXX = abaaba", "aXXb = XabX", "XaXa = aXaX", "XXab = abXX", "XabX = abXX", "XbaXba = abXabX", "XaX = aXa", "cXd = cXd", "XcX = XdX", "Xcd = cdX",
		"XXXXXXXXXXXXXXXXXXXXXXXX = aaaaaaaaaaaaaaaaaaaaaaaa", "XXXXXXXXXXXXXXXXXXXXXXXX = aaaaaaaaaaaaaaaaaaaaaaab", "XXXXXXXXXXXXXXXXXXXXXXXX = ", "X = abcdabcdabcdabcdabcdabcd", "XX = abcdabcdabcaabcdabcdabca",
		"Xaaaaaaaaaaaaaaaaaaaaaab = aaaaaaaaaaaaaaaaaaaaaabX", "Xbaaaaaaaaaaaaaaaaaaaaaa = aaaaaaaaaaaaaaaaaaaaaabX", "Xaaaaaaaaaaabaaaaaaaaaaa = aaaaaaaaaaabaaaaaaaaaaaX", "Xaaaaaaaaaaaaaaaaaaaaaaa = aaaaaaaaaaaaaaaaaaaaaaaX",
		"Xabababababababababababa = abababababababababababaX", "Xbabababababababababab = abababababababababababX", "XXXXXXXXXXXXabababababab = ababababababXXXXXXXXXXXX", "XaXaXaXaXaXaXaXaXaXaXaXb = aXaXaXaXaXaXaXaXaXaXaXbX",
	)
	for _, texts := range [][2]string{{"abaababaab", "aba"}, {"abaababaab", "ab"}, {"aabaabaaba", "aab"}, {"aabaabaa", "a"}, {"abababab", "abab"}, {"abbabbabba", "abba"}, {"ccdcc", "c"}} {
		terms := waysToWrite(texts[0], texts[1])
		for i, u := range terms {
			list = append(list, []string{u, terms[(i*7+3)%len(terms)]}, []string{terms[len(terms)-1], u})
		}
	}
	return list
}
