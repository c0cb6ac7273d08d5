package tests

import (
	"fmt"
	"math"
	"slices"
	"strings"
	"testing"

	"loop.example/g01143/impl"
)

// leviByHand returns the text of what LeviParts should return for words.
func leviByHand(x, y, z, t string) string {
	switch {
	case x+y != z+t:
		return `0 "" 4`
	case x == z:
		return `0 "" 0`
	}
	for n := 1; n <= len(x+z); n++ {
		if n <= len(x) && x == z+x[len(x)-n:] && x[len(x)-n:]+y == t {
			return fmt.Sprintf("1 %q 0", x[len(x)-n:])
		}
		if n <= len(z) && z == x+z[len(z)-n:] && z[len(z)-n:]+t == y {
			return fmt.Sprintf("2 %q 0", z[len(z)-n:])
		}
	}
	return "none"
}

func checkLevi(t *testing.T, x, y, z, u string) {
	t.Helper()
	side, w, code := impl.LeviParts(x, y, z, u)
	same(t, fmt.Sprintf("LeviParts %q %q %q %q", x, y, z, u), leviByHand(x, y, z, u), side, w, code)
}

func TestLeviParts(t *testing.T) {
	words := textsUpTo("ab", 2)
	for _, x := range words {
		for _, y := range words {
			for _, z := range words {
				for _, u := range words {
					checkLevi(t, x, y, z, u)
				}
			}
		}
	}
	// All ways to divide some words, both ways round.
	for _, w := range []string{"", "a", "abcd", "aabaab", "abababa", "dcbaabcd", sixty, sixty + sixty, strings.Repeat("a", 120)} {
		for i := max(0, len(w)-60); i <= min(len(w), 60); i++ {
			for k := max(0, len(w)-60); k <= min(len(w), 60); k++ {
				checkLevi(t, w[:i], w[i:], w[:k], w[k:])
			}
		}
	}
}

func TestLeviPartsEdges(t *testing.T) {
	check := func(x, y, z, u, want string) {
		t.Helper()
		side, w, code := impl.LeviParts(x, y, z, u)
		same(t, fmt.Sprintf("LeviParts %.70q %.70q %.70q %.70q", x, y, z, u), want, side, w, code)
	}
	check("", "", "", "", `0 "" 0`)
	check("", "ab", "", "ab", `0 "" 0`)
	check("ab", "", "ab", "", `0 "" 0`)
	check("", "ab", "ab", "", `2 "ab" 0`)
	check("ab", "", "", "ab", `1 "ab" 0`)
	check("ab", "", "a", "b", `1 "b" 0`)
	check("", "ab", "a", "b", `2 "a" 0`)
	check("ab", "aba", "abab", "a", `2 "ab" 0`)
	check("abab", "a", "ab", "aba", `1 "ab" 0`)
	check("aa", "a", "a", "aa", `1 "a" 0`)
	check(sixty, "", "", sixty, `1 "`+sixty+`" 0`)
	check("", "", "", "a", `0 "" 4`)
	check("a", "", "", "", `0 "" 4`)
	check("ab", "a", "a", "ab", `0 "" 4`)
	check("a", "b", "a", "c", `0 "" 4`)
	check("ab", "c", "a", "cc", `0 "" 4`)
	check("a", "b", "a", "bb", `0 "" 4`)
	check("ab", "abc", "ab", "ab", `0 "" 4`)
	for _, w := range noWords() {
		check(w, "", w, "", `0 "" 1`)
		check("", w, "", w, `0 "" 1`)
		check(w, "", "", "", `0 "" 1`)
		check("", w, "", "", `0 "" 1`)
		check("", "", w, "", `0 "" 1`)
		check("", "", "", w, `0 "" 1`)
		check("a", "b", "b", w, `0 "" 1`)
	}
}

// commuteByHand reports whether words give the same in all orders.
func commuteByHand(words ...string) bool {
	for _, u := range words {
		for _, v := range words {
			if u+v != v+u {
				return false
			}
		}
	}
	return true
}

func TestPowersMeet(t *testing.T) {
	words := append(textsUpTo("ab", 2), "aab", "aba", "abab", "aaa")
	different := 0
	for _, x := range words {
		for _, y := range words {
			for _, z := range words {
				for n := range int64(125) {
					i, j, k := n/25, n/5%5, n%5
					want := strings.Repeat(x, int(i))+strings.Repeat(y, int(j)) == strings.Repeat(z, int(k))
					got, code := impl.PowersMeet(x, y, z, i, j, k)
					if got != want || code != impl.OK {
						t.Errorf("PowersMeet %q %q %q %d %d %d: got %v, %d", x, y, z, i, j, k, got, code)
					}
					commute := commuteByHand(x, y, z)
					if got && min(i, j, k) >= 2 && !commute {
						t.Errorf("PowersMeet %q %q %q %d %d %d, and they do not commute", x, y, z, i, j, k)
					}
					if got && !commute {
						different++
					}
				}
			}
		}
	}
	if different < 1000 {
		t.Errorf("only %d words meet without commuting", different)
	}
}

func TestPowersMeetEdges(t *testing.T) {
	check := func(x, y, z string, i, j, k int64, want string) {
		t.Helper()
		got, code := impl.PowersMeet(x, y, z, i, j, k)
		same(t, fmt.Sprintf("PowersMeet %.70q %.70q %.70q %d %d %d", x, y, z, i, j, k), want, got, code)
	}
	check("a", "b", "ab", 1, 1, 1, `true 0`)
	check("ab", "a", "aba", 1, 1, 1, `true 0`)
	check("a", "ba", "ab", 1, 1, 2, `false 0`)
	check("a", "bab", "ab", 1, 1, 2, `true 0`)
	check("aab", "b", "aabb", 1, 1, 1, `true 0`)
	check("ab", "c", "ab", 2, 0, 2, `true 0`)
	check("c", "ab", "ab", 0, 3, 3, `true 0`)
	check("a", "b", "c", 0, 0, 0, `true 0`)
	check("a", "b", "c", 1, 0, 0, `false 0`)
	check("a", "b", "c", 0, 0, 1, `false 0`)
	check("", "", "", 60, 1, 60, `true 0`)
	check("", "b", "c", 60, 0, 0, `true 0`)
	check("", "b", "b", 60, 60, 60, `true 0`)
	check("", "", "b", 60, 60, 1, `false 0`)
	check("a", "a", "a", 30, 30, 60, `true 0`)
	check("a", "a", "a", 60, 60, 60, `false 0`)
	check("a", "a", "aa", 60, 60, 60, `true 0`)
	check("ab", "ba", "ab", 2, 1, 3, `false 0`)
	check(sixty, sixty, sixty, 30, 30, 60, `true 0`)
	check(sixty, sixty, sixty, 60, 0, 60, `true 0`)
	check(sixty, sixty[:4], sixty[:8], 60, 60, 60, `false 0`)
	check(sixty, sixty[:4], sixty, 56, 60, 60, `true 0`)
	for _, n := range []int64{-1, 61, -60, math.MinInt64, math.MaxInt64, 1 << 32} {
		check("a", "a", "a", n, 0, 0, `false 2`)
		check("a", "a", "a", 0, n, 0, `false 2`)
		check("a", "a", "a", 0, 0, n, `false 2`)
		check("", "", "", n, n, n, `false 2`)
		check("e", "", "", n, n, n, `false 1`)
		check("", "", "X", 0, n, 0, `false 1`)
	}
	for _, w := range noWords() {
		check(w, "", "", 0, 0, 0, `false 1`)
		check("", w, "", 0, 0, 0, `false 1`)
		check("", "", w, 0, 0, 0, `false 1`)
		check(w, "", w, 1, 0, 1, `false 1`)
	}
}

// setOf returns the words of a list that are not empty, each once, in their order.
func setOf(list []string) []string {
	set := slices.Clone(list)
	slices.SortFunc(set, func(v, w string) int {
		if before(v, w) {
			return -1
		}
		return 1
	})
	return slices.DeleteFunc(slices.Compact(set), func(w string) bool { return w == "" })
}

// checkRank compares the rank of values with a wanted one, and makes sure that only a code has a rank as great as its number of words.
func checkRank(t *testing.T, v []string, want int) {
	t.Helper()
	set := setOf(v)
	rank, code := impl.RankOfValues(v)
	same(t, fmt.Sprintf("RankOfValues %q", v), fmt.Sprint(want, " 0"), rank, code)
	if isCodeByHand(set) != (int(rank) == len(set)) || (rank <= 1) != commuteByHand(set...) {
		t.Errorf("RankOfValues %q: %d does not fit", v, rank)
	}
}

func TestRankOfValues(t *testing.T) {
	ranks := map[string]int{}
	rankByHand := func(v []string) int {
		name := strings.Join(setOf(v), " ")
		if _, ok := ranks[name]; !ok {
			ranks[name] = len(hullByHand(setOf(v)))
		}
		return ranks[name]
	}
	words := textsUpTo("ab", 3)
	for i, u := range words {
		for k, v := range words {
			for l, w := range words {
				list := []string{u, v, w, words[(i+k+l)%7]}
				checkRank(t, list, rankByHand(list))
				list = []string{w, "", v, u}
				checkRank(t, list, rankByHand(list))
			}
		}
	}
	for _, text := range []string{"abcabc abc abcab", "abba abbaabb abb b", "aabb abba a bb", "ababa ab aba", "abab ba bab", "abcd cda bcda cd", "aaaa aaaaaa", "abaab ab aabab", "abab bab aba babb"} {
		list := append(strings.Fields(text), "", "")[:4]
		checkRank(t, list, rankByHand(list))
	}
}

func TestRankOfValuesCases(t *testing.T) {
	a := func(n int) string { return strings.Repeat("a", n) }
	cases := []struct {
		words string
		want  int
	}{
		{"", 0}, {"a", 1}, {"ab ab", 1}, {"ab ab ab ab", 1}, {"ab abab ababab", 1}, {"aa aaa", 1}, {"a b c d", 4}, {"a b c a", 3}, {"a b a b", 2}, {"a ab ba", 2}, {"ab ba abb", 3}, {"ab ba abb bb", 2},
		{"aab ab ba abb", 2}, {"ab ba abb c", 4}, {"aaab aab ab b", 4}, {"a aab ab", 2}, {"ab abc c", 2}, {"ab abcd cd", 2}, {"ab abc abcd", 3}, {"abc abcd d", 2}, {"a ab abc abcd", 4}, {"a ab abc bcd", 4}, {"a ab abc bc", 3}, {"a ab b c", 3}, {"ab abb bb b", 2},
		// Words of the hull that arise by several steps.
		{"ab abab abababab", 1}, {"aba abaab ab", 2}, {"abaababaab abaab aba", 2}, {"abaababa abaab aba ab", 2}, {"aab aabaabb b", 2}, {"aab aabb aabbb b", 2}, {"abcabcd abc d", 2}, {"abcabcd abc abcd", 2}, {"abcabcabcd abcabc d abcd", 3}, {"abba abbaabba abbab b", 2},
		{"ababb abb ab", 2}, {"aabba abba aab ba", 3}, {"ab abbab bab babb", 2},
		// Long words.
		{a(60) + " " + a(59), 1}, {a(60) + " " + a(45) + " " + a(12) + " " + a(10), 1}, {a(59) + "b " + a(60), 2}, {a(59) + "b " + a(60) + " " + a(59), 2}, {a(59) + "b " + a(60) + " " + a(59) + " b", 2}, {strings.Repeat("ab", 30) + " " + strings.Repeat("ab", 29) + " " + strings.Repeat("ba", 30), 2},
		{sixty + " " + sixty[4:] + " " + sixty[8:], 1}, {sixty + " " + sixty[1:] + " a", 2}, {sixty + " " + sixty[1:] + " a bcd", 2}, {sixty + " " + sixty[:59], 2}, {sixty + " " + sixty[:59] + " d", 2},
		{a(30) + "b" + a(29) + " " + a(30) + " b" + a(29), 2}, {a(30) + "b" + a(29) + " " + a(30) + " b " + a(29), 2}, {a(57) + "b " + a(58) + " " + a(19) + " ba", 2},
	}
	for _, c := range cases {
		words := strings.Fields(c.words)
		for turn := range 4 {
			v := make([]string, 4)
			for i, w := range words {
				v[(i+turn)%4] = w
			}
			checkRank(t, v, c.want)
		}
	}
	for _, bad := range noValues() {
		rank, code := impl.RankOfValues(bad)
		same(t, "RankOfValues of no values", `0 1`, rank, code)
	}
}

// TestSolutionsLoseRank makes sure that solutions of equations without letters have a rank less than the number of unknowns.
func TestSolutionsLoseRank(t *testing.T) {
	all := slices.DeleteFunc(valuesUpTo("XYZ", 4), func(v []string) bool { return strings.ContainsAny(strings.Join(v, ""), "cd") })
	terms := append(textsUpTo("XYZ", 2), "XYZ", "ZYX", "XYX", "YXY", "XZY", "XYXY", "YXXY", "ZXYX", "XZZX", "YYXX")
	great := 0
	for _, e := range equations(terms) {
		if e.Left == e.Right {
			continue
		}
		names := unknownsIn([]impl.Equation{e})
		for _, v := range all {
			// Unknowns that do not occur have to be empty.
			if !solves([]impl.Equation{e}, v) || slices.ContainsFunc([]int{0, 1, 2}, func(x int) bool { return v[x] != "" && !strings.Contains(names, "XYZ"[x:x+1]) }) {
				continue
			}
			rank, code := impl.RankOfValues(v)
			if code != impl.OK || int(rank) >= len(names) {
				t.Errorf("%q: the rank of %q is %d, %d", e, v, rank, code)
			}
			if rank == 2 {
				great++
			}
		}
	}
	if great < 100 {
		t.Errorf("only %d solutions have the rank 2", great)
	}
}

// followsByHand reports whether each solution of a system, up to a sum of lengths, is one of an equation.
func followsByHand(list []impl.Equation, e impl.Equation, total int) bool {
	all := valuesUpTo(unknownsIn(append(slices.Clone(list), e)), total)
	return !slices.ContainsFunc(all, func(v []string) bool { return solves(list, v) && !solves([]impl.Equation{e}, v) })
}

func TestFollowsUpTo(t *testing.T) {
	more := system("X = ", "X = a", "X = Y", "Y = X", "XY = YX", "Xa = aX", "Xa = Xa", "XaY = YaX", "a = b", "a = a", "ab = ", " = ", "XX = YY", "XX = aa", "YXY = XYX", "Z = ", "Z = X", "ZX = XZ", "W = aW", "aXbY = aYbX")
	for _, list := range familySystems() {
		for _, e := range more {
			most := 3
			if len(unknownsIn(append(slices.Clone(list), e))) > 2 {
				most = 2
			}
			for total := range most + 1 {
				got, code := impl.FollowsUpTo(list, e, int64(total))
				same(t, fmt.Sprint("FollowsUpTo ", list, e, total), fmt.Sprint(followsByHand(list, e, total), " 0"), got, code)
			}
		}
	}
}

func TestFollowsUpToEdges(t *testing.T) {
	check := func(list []impl.Equation, text string, total int64, want string) {
		t.Helper()
		got, code := impl.FollowsUpTo(list, equation(text), total)
		same(t, fmt.Sprint("FollowsUpTo ", list, text, total), want, got, code)
	}
	check(nil, " = ", 6, `true 0`)
	check(nil, "a = b", 0, `false 0`)
	check(nil, "X = ", 0, `true 0`)
	check(nil, "X = ", 1, `false 0`)
	check(nil, "XYZW = XYZW", 6, `true 0`)
	check(nil, "XYZW = XYWZ", 1, `true 0`)
	check(nil, "XYZW = XYWZ", 2, `false 0`)
	check(nil, "XYZZ = ZZXY", 1, `true 0`)
	check(nil, "XYZZ = ZZXY", 2, `false 0`)
	check(nil, "XXX = aaaXXX", 6, `false 0`)
	check(system("X = Y"), "Y = X", 6, `true 0`) // itself turned round
	check(system("XaY = YbX"), "YbX = XaY", 6, `true 0`)
	check(system("X = Y"), "Z = Z", 6, `true 0`)
	check(system("X = Y"), "Z = W", 1, `false 0`) // unknowns that occur only in the equation
	check(system("X = Y"), "Z = W", 0, `true 0`)
	check(system("Z = a"), "X = X", 6, `true 0`) // and only in the system
	check(system("Z = a"), "a = b", 1, `false 0`)
	check(system("Z = a"), "a = b", 0, `true 0`)
	check(system("W = ab", "Z = Wa"), "X = ", 5, `true 0`)
	check(system("W = ab", "Z = Wa"), "X = ", 6, `false 0`)
	check(system("W = ab", "Z = Wa"), "Z = aba", 6, `true 0`)
	check(system("W = ab", "Z = Wa"), "Z = abb", 4, `true 0`)
	check(system("W = ab", "Z = Wa"), "Z = abb", 5, `false 0`)
	check(system("a = b"), "X = a", 6, `true 0`)
	check(system("Xa = bX"), "Y = a", 6, `true 0`)
	check(system("Xa = aX", "Ya = aY"), "XY = YX", 6, `true 0`)
	check(system("XY = YX", "YZ = ZY"), "XZ = ZX", 1, `true 0`)
	check(system("XY = YX", "YZ = ZY"), "XZ = ZX", 2, `false 0`)
	check(system("XY = YX", "YZ = ZY", "Y = b"), "XZ = ZX", 6, `true 0`)
	check(system("XX = YY"), "X = Y", 6, `true 0`)
	check(system("XaX = YaY", "Z = X", "W = Y", "W = W"), "ZZ = WW", 6, `true 0`)
	check(system("aX = aY"), "Xb = Yb", 6, `true 0`)
	for _, total := range badSmallTotals {
		check(nil, "X = ", total, `false 2`)
		check(system("a = b"), " = ", total, `false 2`)
		check([]impl.Equation{{Left: "e"}}, "X = ", total, `false 1`)
		check(nil, "e = ", total, `false 1`)
	}
	for _, bad := range noSystems() {
		check(bad, "X = ", 1, `false 1`)
	}
	for _, bad := range noEquations() {
		for _, list := range [][]impl.Equation{nil, system("a = b"), {bad}} {
			got, code := impl.FollowsUpTo(list, bad, 1)
			same(t, "FollowsUpTo of no equation", `false 1`, got, code)
		}
	}
}

// independentByHand reports whether no equation of a system follows from the others.
func independentByHand(list []impl.Equation, total int) bool {
	all := valuesUpTo(unknownsIn(list), total)
	for i, e := range list {
		others := append(append([]impl.Equation{}, list[:i]...), list[i+1:]...)
		if !slices.ContainsFunc(all, func(v []string) bool { return solves(others, v) && !solves([]impl.Equation{e}, v) }) {
			return false
		}
	}
	return true
}

func TestIsIndependent(t *testing.T) {
	texts := []string{"X = ", "X = a", "X = Y", "XY = YX", "Xa = aX", "X = X", "a = b", " = ", "XaY = YaX", "Y = a", "YX = a", "Z = X"}
	check := func(most int, list ...string) {
		t.Helper()
		for total := range most + 1 {
			got, code := impl.IsIndependent(system(list...), int64(total))
			same(t, fmt.Sprint("IsIndependent ", list, total), fmt.Sprint(independentByHand(system(list...), total), " 0"), got, code)
		}
	}
	for _, one := range texts {
		check(3, one)
		for _, two := range texts {
			check(2, one, two)
			for i, three := range texts {
				check(2, one, two, three)
				if i%3 == 0 {
					check(1, three, one, "Z = W", two)
				}
			}
		}
	}
}

func TestIsIndependentEdges(t *testing.T) {
	check := func(list []impl.Equation, total int64, want string) {
		t.Helper()
		got, code := impl.IsIndependent(list, total)
		same(t, fmt.Sprint("IsIndependent ", list, total), want, got, code)
	}
	check(nil, 0, `true 0`)
	check(nil, 6, `true 0`)
	check(system("X = "), 0, `false 0`)
	check(system("X = "), 1, `true 0`)
	check(system("X = X"), 6, `false 0`) // always holds
	check(system(" = "), 6, `false 0`)
	check(system("a = b"), 0, `true 0`)
	check(system("a = b", "X = a"), 6, `false 0`)
	check(system("X = a", "a = b"), 6, `false 0`)
	check(system("a = b", "a = b"), 6, `false 0`)
	check(system("X = Y", "X = Y"), 6, `false 0`) // the same equation twice
	check(system("X = Y", "Y = X"), 6, `false 0`)
	check(system("X = Y", "X = X"), 6, `false 0`)
	check(system("X = Y", "Z = Z"), 6, `false 0`)
	check(system("X = Y", "Z = W"), 1, `true 0`)
	check(system("X = Y", "Z = W"), 0, `false 0`)
	check(system("X = a", "Y = X"), 1, `true 0`)
	check(system("X = a", "Y = X"), 0, `false 0`)
	check(system("X = a", "Y = X", "Ya = aX"), 6, `false 0`)
	check(system("Ya = aX", "X = a", "Y = X"), 6, `false 0`)
	check(system("X = aa", "Y = XX"), 2, `true 0`)
	check(system("Y = XX", "X = aa"), 1, `false 0`)
	check(system("X = abcdab", "Y = "), 6, `false 0`) // Y is empty in each solution with so many letters
	check(system("X = abcda", "Y = "), 6, `true 0`)
	check(system("XY = YX", "YZ = ZY", "XZ = ZX"), 6, `true 0`)
	check(system("XY = YX", "YZ = ZY", "XZ = ZX"), 2, `true 0`)
	check(system("XY = YX", "YZ = ZY", "XZ = ZX"), 1, `false 0`)
	check(system("XY = YX", "YZ = ZY", "ZW = WZ", "WX = XW"), 1, `false 0`)
	check(system("XY = YX", "YZ = ZY", "ZW = WZ", "WX = XW"), 2, `true 0`)
	check(system("X = ", "Y = ", "Z = ", "W = "), 1, `true 0`)
	check(system("X = ", "Y = ", "Z = ", "W = W"), 6, `false 0`)
	for _, total := range badSmallTotals {
		check(nil, total, `false 2`)
		check(system("X = a"), total, `false 2`)
		check(system("X = X"), total, `false 2`)
		check([]impl.Equation{{Left: "e"}}, total, `false 1`)
		check(make([]impl.Equation, 5), total, `false 1`)
	}
	for _, bad := range noSystems() {
		check(bad, 1, `false 1`)
	}
}
