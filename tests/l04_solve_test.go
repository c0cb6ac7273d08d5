package tests

import (
	"fmt"
	"slices"
	"strings"
	"testing"

	"loop.example/g01143/impl"
)

// oneErrors are pairs of texts that are no sides of an equation with one unknown, with the code of their error.
func oneErrors() map[int64][][]string {
	states := [][]string{{"Y", "a"}, {"a", "Y"}, {"XZX", "XZX"}, {"W", "W"}, {"", "abW"}, {"XYZW", "WZYX"}, {strings.Repeat("Y", 24), ""}, {"X", strings.Repeat("a", 23) + "Z"}}
	var invalid [][]string
	for _, bad := range append(noTerms(), strings.Repeat("a", 25), strings.Repeat("X", 25), strings.Repeat("Y", 25)) {
		invalid = append(invalid, []string{bad, "X"}, []string{"X", bad}, []string{bad, "Y"}, []string{"YZ", bad}, []string{bad, bad})
	}
	return map[int64][][]string{impl.ErrState: states, impl.ErrInvalid: invalid}
}

func TestOneErrors(t *testing.T) {
	for want, pairs := range oneErrors() {
		for _, p := range pairs {
			name, u, v := fmt.Sprintf("of %.30q", p), p[0], p[1]
			yes, code := impl.SolvesOne(u, v, "ab")
			same(t, "SolvesOne "+name, fmt.Sprint("false ", want), yes, code)
			yes, code = impl.SolvesOne(u, v, "aX")
			same(t, "SolvesOne by no word "+name, `false 1`, yes, code)
			left, right, code := impl.CancelEnds(u, v)
			same(t, "CancelEnds "+name, fmt.Sprint(`"" "" `, want), left, right, code)
			n, letters, code := impl.ExcessOf(u, v)
			same(t, "ExcessOf "+name, fmt.Sprint("0 0 ", want), n, letters, code)
			x, code := impl.SolveOne(u, v)
			same(t, "SolveOne "+name, fmt.Sprint(`"" `, want), told(x), code)
			x, code = impl.SolveAll([][]string{p})
			same(t, "SolveAll "+name, fmt.Sprint(`"" `, want), told(x), code)
			x, code = impl.SolveAll([][]string{{"X", "a"}, p, {"X", "b"}})
			same(t, "SolveAll of three "+name, fmt.Sprint(`"" `, want), told(x), code)
			kind, code := impl.KindOfOne(u, v)
			same(t, "KindOfOne "+name, fmt.Sprint("0 ", want), kind, code)
		}
	}
}

func TestSolvesOne(t *testing.T) {
	words := textsUpTo("abc", 3)
	for _, u := range textsUpTo("abX", 3) {
		for _, v := range textsUpTo("acX", 3) {
			for _, x := range words {
				yes, code := impl.SolvesOne(u, v, x)
				if yes != (withX(u, x) == withX(v, x)) || code != impl.OK {
					t.Fatalf("SolvesOne %q, %q, %q: got %v, %d", u, v, x, yes, code)
				}
			}
		}
	}
}

// TestSolvesOneLong puts in words with more than MaxWord letters, too, and such with a longer result.
func TestSolvesOneLong(t *testing.T) {
	sixty, long := strings.Repeat("ab", 30), strings.Repeat("X", 24)
	for _, x := range []string{sixty, sixty + "ab", sixty + sixty, strings.Repeat("ab", 500000)} {
		for _, c := range [][3]string{{"Xab", "abX", "true 0"}, {"Xba", "abX", "false 0"}, {long, long, "true 0"}, {long, long[1:], "false 0"}, {long[1:] + "a", "a" + long[1:], "false 0"}, {"", "", "true 0"}, {"X", "", "false 0"}, {"a", "a", "true 0"}, {"a", "b", "false 0"}} {
			yes, code := impl.SolvesOne(c[0], c[1], x)
			same(t, fmt.Sprintf("SolvesOne %q, %q and %d letters", c[0], c[1], len(x)), c[2], yes, code)
		}
	}
	yes, code := impl.SolvesOne("Xba", "abX", sixty+"a")
	same(t, "one letter more than MaxWord", `true 0`, yes, code)
	yes, code = impl.SolvesOne("Xba", "abX", sixty+"b")
	same(t, "another letter more than MaxWord", `false 0`, yes, code)
	for _, x := range []string{"X", "e", " ", "A", "a ", "aX", "a\n", "\x00", "é", sixty + "X", sixty + "e", strings.Repeat("a", 999999) + "é", strings.Repeat("X", 1000000)} {
		for _, p := range [][]string{{"X", "X"}, {"a", "b"}, {"Y", "a"}, {"e", "X"}} {
			yes, code := impl.SolvesOne(p[0], p[1], x)
			same(t, fmt.Sprintf("SolvesOne %q and %.20q", p, x), `false 1`, yes, code)
		}
	}
}

func TestCancelEnds(t *testing.T) {
	words := textsUpTo("abc", 2)
	for _, u := range textsUpTo("abX", 4) {
		for _, v := range textsUpTo("abX", 3) {
			left, right, code := impl.CancelEnds(u, v)
			wantLeft, wantRight := stripByHand(u, v)
			if left != wantLeft || right != wantRight || code != impl.OK {
				t.Fatalf("CancelEnds %q, %q: got %q, %q, %d, want %q, %q", u, v, left, right, code, wantLeft, wantRight)
			}
			for _, x := range words {
				if solvesAll([][]string{{u, v}}, x) != solvesAll([][]string{{left, right}}, x) {
					t.Fatalf("CancelEnds %q, %q: %q, %q has not the same solutions, as %q", u, v, left, right, x)
				}
			}
			before, _ := impl.SolveOne(u, v)
			after, _ := impl.SolveOne(left, right)
			if told(before) != told(after) {
				t.Fatalf("CancelEnds %q, %q: the solutions %s, and behind it %s", u, v, told(before), told(after))
			}
		}
	}
	cases := [][4]string{
		{"", "", "", ""}, {"X", "", "X", ""}, {"", "ab", "", "ab"}, {"X", "X", "", ""}, {"aXb", "aXb", "", ""}, {"aXbX", "aaXX", "Xb", "aX"}, {"XaX", "X", "aX", ""}, {"aXXa", "aXa", "X", ""},
		{"XX", "XXXX", "", "XX"}, {"Xd", "cd", "X", "c"}, {"dX", "dc", "X", "c"}, {"aa", "aaa", "", "a"}, {"ab", "cb", "a", "c"}, {"XaXb", "XbXb", "a", "b"}, {"abX", "Xab", "abX", "Xab"},
	}
	for _, c := range cases {
		left, right, code := impl.CancelEnds(c[0], c[1])
		same(t, fmt.Sprintf("CancelEnds %q, %q", c[0], c[1]), fmt.Sprintf("%q %q 0", c[2], c[3]), left, right, code)
	}
}

func TestExcessOf(t *testing.T) {
	lettersIn := func(term string) int64 { return int64(len(term) - strings.Count(term, "X")) }
	for _, p := range append(onePairs(), []string{"XXX", "abX"}, []string{"cX", "XdXXa"}) {
		for _, p := range [][]string{p, {p[1], p[0]}} {
			n, letters, code := impl.ExcessOf(p[0], p[1])
			wantN, wantLetters := surplus(impl.Equation{Left: p[0], Right: p[1]}, "X"), lettersIn(p[1])-lettersIn(p[0])
			same(t, fmt.Sprintf("ExcessOf %q", p), fmt.Sprint(wantN, wantLetters, 0), n, letters, code)
			for length := range 30 {
				if _, ok := solutionByHand([][]string{p}, length); ok && int64(length)*n != letters {
					t.Errorf("ExcessOf %q: got %d, %d, but there is a solution of the length %d", p, n, letters, length)
				}
			}
		}
	}
	cases := map[string]string{
		" = ": `0 0 0`, "X = ": `1 0 0`, " = X": `-1 0 0`, "a = ": `0 -1 0`, " = a": `0 1 0`, "XX = abXab": `1 4 0`, "abXab = XX": `-1 -4 0`, "aX = Xbcd": `0 2 0`, "XXX = dXd": `2 2 0`, "aaX = XXX": `-2 -2 0`,
	}
	for text, want := range cases {
		n, letters, code := impl.ExcessOf(pair(text)[0], pair(text)[1])
		same(t, "ExcessOf "+text, want, n, letters, code)
	}
}

func TestSolveOneCases(t *testing.T) {
	long := strings.Repeat("X", 24)
	cases := [][2]string{
		// Empty and equal terms, and terms without X.
		{" = ", "every"}, {"X = X", "every"}, {"aXb = aXb", "every"}, {"ab = ab", "every"}, {long + " = " + long, "every"}, {"X = ", "-"}, {" = X", "-"}, {"XX = ", "-"}, {" = aX", ""}, {"XaX = ", ""},
		{"a = ", ""}, {" = a", ""}, {"a = b", ""}, {"ab = ba", ""}, {"ab = abc", ""},
		// X alone on a side.
		{"X = a", "a"}, {"abcd = X", "abcd"}, {"X = aX", ""}, {"X = XX", "-"}, {"Xb = X", ""}, {"XXX = X", "-"}, {"X = XaX", ""}, {"X = aXa", ""},
		// Different numbers of X, with letters on either side, and lengths that do not divide.
		{"XX = abXab", "abab"}, {"abXab = XX", "abab"}, {"XX = ab", ""}, {"XX = abab", "ab"}, {"XX = aab", ""}, {"XXX = aX", ""}, {"XXXX = aXa", ""}, {"XXX = aXa", "a"}, {"XXa = X", ""}, {"aXX = Xa", "-"}, {"aXX = Xb", ""}, {"XaXb = ab", "-"}, {"XbX = aXbaa", ""}, {"XbX = aabX", "aa"}, {"XX = cXd", ""},
		// Equal numbers of X.
		{"Xa = X", ""}, {"X = aX", ""}, {"Xab = aX", ""}, {"Xa = bX", ""}, {"aX = Xb", ""}, {"aX = bX", ""}, {"Xa = Xb", ""}, {"aX = Xa", "(a)0"}, {"Xab = abX", "(ab)0"}, {"Xba = abX", "(ab)0a"}, {"bXa = abX", ""},
		{"aaX = Xaa", "(a)0"}, {"ababX = Xabab", "(ab)0"}, {"aabX = Xaba", "(aab)0a"}, {"aabX = Xbaa", "(aab)0aa"}, {"abaabaX = Xaabaab", "(aba)0ab"}, {"XXab = abXX", "(ab)0"}, {"XabX = abXX", "(ab)0"}, {"XaX = aXX", "(a)0"}, {"XbaXba = abXabX", "(ab)0a"}, {"XaXa = aXbX", ""},
		// Several words.
		{"XaXbab = abaXbX", "- ab"}, {"abXaXbX = XXaXbab", "- ab"}, {"ababbaXX = aXaXbabb", "b babb"}, {"XabXaXaba = abaabXaXX", "- aba"},
	}
	for _, c := range cases {
		p := pair(c[0])
		for _, p := range [][]string{p, {p[1], p[0]}} {
			x, code := impl.SolveOne(p[0], p[1])
			same(t, fmt.Sprintf("SolveOne %q", p), fmt.Sprintf("%q 0", c[1]), told(x), code)
		}
	}
}

// TestSolveOneSearch holds the solutions of small equations against a search among all short words.
func TestSolveOneSearch(t *testing.T) {
	words := append(textsUpTo("ab", 7), textsUpTo("abcd", 2)...)
	terms := append(textsUpTo("abX", 4), "cX", "Xc", "cXd")
	for _, u := range terms {
		for _, v := range terms {
			x, code := impl.SolveOne(u, v)
			if code != impl.OK || !impl.ValidSolutions(x) {
				t.Fatalf("SolveOne %q, %q: got %s, %d", u, v, told(x), code)
			}
			for _, w := range words {
				if want := withX(u, w) == withX(v, w); want != (x.Every || slices.Contains(wordsByHand(x, len(w)), w)) {
					t.Fatalf("SolveOne %q, %q: got %s, but %q is a solution: %v", u, v, told(x), w, want)
				}
			}
		}
	}
}

// TestSolveOneLengths compares all solutions, up to lengths at which families have long begun.
func TestSolveOneLengths(t *testing.T) {
	for _, p := range onePairs() {
		x, code := impl.SolveOne(p[0], p[1])
		checkDescription(t, [][]string{p}, 75, x, code)
		if code != impl.OK || x.Every {
			continue
		}
		checkAsked(t, x)
		for _, f := range x.Families {
			for k := range f.From + 9 {
				w := strings.Repeat(f.Root, int(k)) + f.Tail
				yes, code := impl.SolvesOne(p[0], p[1], w)
				same(t, fmt.Sprintf("%q and %s", p, w), fmt.Sprint(k >= f.From || slices.Contains(x.Words, w), 0), yes, code)
			}
		}
	}
}

// TestSolveOneHas asks SolveOne and HasSolution for words near to solutions.
func TestSolveOneHas(t *testing.T) {
	for _, p := range onePairs() {
		x, _ := impl.SolveOne(p[0], p[1])
		near := textsUpTo("abcd", 2)
		for length := range 20 {
			if w, ok := solutionByHand([][]string{p}, length); ok && w != "every" {
				near = append(near, w, w+"a", "b"+w, w+w, w[len(w)/2:], w[:len(w)/2])
			}
		}
		for _, w := range near {
			has, code := impl.HasSolution(x, w)
			same(t, fmt.Sprintf("HasSolution of %q and %s", p, w), fmt.Sprint(withX(p[0], w) == withX(p[1], w), 0), has, code)
		}
	}
}

func TestKindOfOne(t *testing.T) {
	cases := map[string]string{
		" = ": `3 0`, "aX = aX": `3 0`, "ab = ab": `3 0`, "Xab = abX": `2 0`, "Xba = abX": `2 0`, "aX = Xa": `2 0`, "XX = abab": `1 0`, "X = ": `1 0`, "XaXbab = abaXbX": `1 0`,
		"a = b": `0 0`, "Xa = bX": `0 0`, "XX = a": `0 0`, "aX = ": `0 0`, "X = aXa": `0 0`,
	}
	for text, want := range cases {
		kind, code := impl.KindOfOne(pair(text)[0], pair(text)[1])
		same(t, "KindOfOne "+text, want, kind, code)
	}
	same(t, "kinds", `0 1 2 3 4 40`, impl.KdNone, impl.KdFinite, impl.KdFamily, impl.KdEvery, impl.MaxPairs, impl.MaxFamilies)
	for _, p := range onePairs() {
		// Solutions of an equation that are just a few are not long, and families are met soon.
		lengths, last := 0, ""
		for length := range 72 {
			if w, ok := solutionByHand([][]string{p}, length); ok {
				lengths++
				last = w
			}
		}
		want := int64(impl.KdNone)
		switch {
		case last == "every":
			want = impl.KdEvery
		case len(last) > 46:
			want = impl.KdFamily
		case lengths > 0:
			want = impl.KdFinite
		}
		kind, code := impl.KindOfOne(p[0], p[1])
		same(t, fmt.Sprintf("KindOfOne %q", p), fmt.Sprint(want, 0), kind, code)
	}
}

// TestSolveAll takes equations with every solution, none, some, and families with equal and different roots and tails, in any order.
func TestSolveAll(t *testing.T) {
	texts := []string{
		"aX = aX", " = ", "Xa = bX", "a = b", "X = ", "X = ab", "X = aba", "XX = abab", "abab = XX", "XaXbab = abaXbX", "ababbaXX = aXaXbabb", "XabXaXaba = abaabXaXX",
		"Xab = abX", "Xabab = ababX", "Xba = abX", "Xab = baX", "Xa = aX", "Xaa = aaX", "Xb = bX", "Xaba = aabX", "Xaab = aabX", "Xaab = abaX", "Xaababaab = aabaabaabX", "Xbaababaa = abaabaabX", "Xbabaabaa = abaababaX",
	}
	for _, one := range texts {
		for _, two := range texts {
			pairs := pairsOf(one, two)
			x, code := impl.SolveAll(pairs)
			checkDescription(t, pairs, 40, x, code)
			for i := 0; i < len(texts); i += 4 {
				for _, pairs := range [][][]string{pairsOf(texts[i], one, two), pairsOf(one, texts[i], two), pairsOf(one, two, texts[i], two)} {
					y, code := impl.SolveAll(pairs)
					checkDescription(t, pairs, 24, y, code)
				}
			}
		}
	}
}

func TestSolveAllCases(t *testing.T) {
	cases := [][2]string{
		{"Xab = abX;XX = abXab", "abab"}, {"XX = abXab;Xab = abX", "abab"}, {"Xab = abX;aX = aX", "(ab)0"}, {"aX = aX;Xab = abX", "(ab)0"}, {"X = X; = ;ab = ab;aXa = aXa", "every"}, {"X = X;a = b", ""}, {"Xa = bX;X = X", ""},
		{"Xab = abX;Xba = abX", ""}, {"Xab = abX;Xabab = ababX", "(ab)0"}, {"Xba = abX;Xbaba = ababX", "(ab)0a"}, {"Xa = aX;Xb = bX", "-"}, {"Xba = abX;Xa = aX", "a"}, {"Xaba = aabX;Xba = abX", "a"}, {"Xa = aX;Xaa = aaX;Xaaa = aaaX;X = aaaa", "aaaa"},
		{"XaXbab = abaXbX;X = ", "-"}, {"XaXbab = abaXbX;XX = abab", "ab"}, {"XaXbab = abaXbX;Xab = abX", "- ab"}, {"Xab = abX;XaXbab = abaXbX", "- ab"}, {"XaXbab = abaXbX;Xa = aX", "-"}, {"X = a;X = b", ""}, {"X = ab;X = ab", "ab"}, {"X = ;XXX = X;X = XX;XX = ", "-"},
		{"Xaab = aabX;Xaba = aabX", ""}, {"Xbaababaa = abaabaabX;Xaba = abaX", ""}, {"Xabaab = abaabX;Xaba = abaX", "-"}, {"X = X;X = X;X = X;X = abcd", "abcd"},
	}
	for _, c := range cases {
		pairs := pairsOf(strings.Split(c[0], ";")...)
		x, code := impl.SolveAll(pairs)
		same(t, "SolveAll "+c[0], fmt.Sprintf("%q 0", c[1]), told(x), code)
	}
	for _, p := range onePairs() {
		one, code := impl.SolveOne(p[0], p[1])
		all, allCode := impl.SolveAll([][]string{p})
		twice, twiceCode := impl.SolveAll([][]string{p, {p[1], p[0]}})
		if told(one) != told(all) || told(one) != told(twice) || code != impl.OK || allCode != impl.OK || twiceCode != impl.OK {
			t.Errorf("%q: alone %s, as a pair %s, twice %s", p, told(one), told(all), told(twice))
		}
	}
}

func TestSolveAllErrors(t *testing.T) {
	good := []string{"X", "a"}
	cases := []struct {
		pairs [][]string
		want  string
	}{
		{nil, `"" 2`}, {[][]string{}, `"" 2`}, {[][]string{nil}, `"" 2`}, {[][]string{{}}, `"" 2`}, {[][]string{{"X"}}, `"" 2`}, {[][]string{{"X", "a", "a"}}, `"" 2`}, {[][]string{good, {"X"}}, `"" 2`}, {[][]string{{"X", "a", "X", "a"}}, `"" 2`},
		{[][]string{good}, `"a" 0`}, {[][]string{good, good, good, good}, `"a" 0`}, {[][]string{good, good, good, good, good}, `"" 2`}, {[][]string{good, good, good, good, nil}, `"" 2`}, {[][]string{good, good, good, {"X", "a", ""}}, `"" 2`},
		{[][]string{{"e"}}, `"" 1`}, {[][]string{{"X", "a", "e"}}, `"" 1`}, {[][]string{good, good, good, good, good, {"x"}}, `"" 1`}, {[][]string{good, nil, {"X", strings.Repeat("a", 25)}}, `"" 1`}, {[][]string{{"Y"}, {"", "", "", " "}}, `"" 1`}, {[][]string{{"XY", "a"}, {"X", "e"}}, `"" 1`},
		{[][]string{{"Y"}}, `"" 2`}, {[][]string{{"X", "a", "Z"}}, `"" 2`}, {[][]string{good, good, good, good, {"W", "a"}}, `"" 2`}, {[][]string{{"XY", "a"}, {"X"}}, `"" 2`}, {[][]string{{"XY", "a"}, nil}, `"" 2`},
		{[][]string{{"XY", "a"}}, `"" 4`}, {[][]string{good, {"a", "W"}}, `"" 4`}, {[][]string{good, good, good, {"Z", "Z"}}, `"" 4`}, {[][]string{{"a", "b"}, {"X", "aY"}}, `"" 4`},
		{make([][]string, 500000), `"" 2`}, {[][]string{make([]string, 500000)}, `"" 2`}, {[][]string{good, append(make([]string, 500000), "e")}, `"" 1`},
	}
	for i, c := range cases {
		x, code := impl.SolveAll(c.pairs)
		same(t, fmt.Sprintf("SolveAll, case %d", i), c.want, told(x), code)
	}
}

// TestCommutingWith compares with all short words, and with words made of the root.
func TestCommutingWith(t *testing.T) {
	words := append(textsUpTo("ab", 6), textsUpTo("abcd", 3)...)
	for _, w := range append(textsUpTo("ab", 5), textsUpTo("bcd", 3)...) {
		x, code := impl.CommutingWith(w)
		if code != impl.OK || !impl.ValidSolutions(x) || x.Every != (w == "") {
			t.Fatalf("CommutingWith %q: got %s, %d", w, told(x), code)
		}
		for _, v := range words {
			if want := v+w == w+v; want != (x.Every || slices.Contains(wordsByHand(x, len(v)), v)) {
				t.Fatalf("CommutingWith %q: got %s, but %q commutes: %v", w, told(x), v, want)
			}
		}
	}
	sixty := strings.Repeat("a", 59) + "b"
	cases := [][2]string{
		{"", `"every" 0`}, {"a", `"(a)0" 0`}, {"abab", `"(ab)0" 0`}, {"aba", `"(aba)0" 0`}, {strings.Repeat("d", 60), `"(d)0" 0`}, {strings.Repeat("abc", 20), `"(abc)0" 0`}, {sixty, `"(` + sixty + `)0" 0`}, {sixty[30:] + sixty[30:], `"(` + sixty[30:] + `)0" 0`},
	}
	for _, c := range cases {
		x, code := impl.CommutingWith(c[0])
		same(t, "CommutingWith "+c[0], c[1], told(x), code)
	}
	for _, w := range noWords() {
		x, code := impl.CommutingWith(w)
		same(t, "CommutingWith no word", `"" 1`, told(x), code)
	}
}

// TestShiftingTo compares with all short words, and with the parts of shifted words.
func TestShiftingTo(t *testing.T) {
	words := append(textsUpTo("ab", 7), textsUpTo("abcd", 2)...)
	list := append(textsUpTo("ab", 4), "c", "cd", "dc", "cdc", "ccd", "dcc")
	for _, u := range list {
		for _, w := range list {
			x, code := impl.ShiftingTo(u, w)
			if code != impl.OK || !impl.ValidSolutions(x) || x.Every != (u == "" && w == "") {
				t.Fatalf("ShiftingTo %q, %q: got %s, %d", u, w, told(x), code)
			}
			for _, v := range words {
				if want := v+u == w+v; want != (x.Every || slices.Contains(wordsByHand(x, len(v)), v)) {
					t.Fatalf("ShiftingTo %q, %q: got %s, but %q shifts: %v", u, w, told(x), v, want)
				}
			}
		}
	}
	as, ds := strings.Repeat("a", 59), strings.Repeat("d", 60)
	cases := [][3]string{
		{"", "", `"every" 0`}, {"", "a", `"" 0`}, {"a", "", `"" 0`}, {"ba", "ab", `"(ab)0a" 0`}, {"ab", "ba", `"(ba)0b" 0`}, {"ab", "ab", `"(ab)0" 0`}, {"ab", "abab", `"" 0`}, {"aab", "abb", `"" 0`}, {"baba", "abab", `"(ab)0a" 0`},
		{as + "b", "b" + as, `"(b` + as + `)0b" 0`}, {"b" + as, as + "b", `"(` + as + "b)0" + as + `" 0`}, {as + "b", as + "b", `"(` + as + `b)0" 0`}, {ds, ds, `"(d)0" 0`}, {ds, ds[1:], `"" 0`}, {ds, as + "d", `"" 0`},
		{strings.Repeat("baa", 20), strings.Repeat("aab", 20), `"(aab)0aa" 0`},
	}
	for _, c := range cases {
		x, code := impl.ShiftingTo(c[0], c[1])
		same(t, fmt.Sprintf("ShiftingTo %q, %q", c[0], c[1]), c[2], told(x), code)
		if !x.Every {
			checkAsked(t, x)
		}
	}
	for _, w := range noWords() {
		for _, p := range [][]string{{w, "a"}, {"a", w}, {w, w}, {"", w}} {
			x, code := impl.ShiftingTo(p[0], p[1])
			same(t, "ShiftingTo no word", `"" 1`, told(x), code)
		}
	}
}

// TestShiftingIsOne compares words that commute or shift with the equation in which they stand.
func TestShiftingIsOne(t *testing.T) {
	for _, u := range textsUpTo("abd", 3) {
		for _, w := range textsUpTo("abd", 3) {
			x, _ := impl.ShiftingTo(u, w)
			y, _ := impl.SolveOne("X"+u, w+"X")
			if !impl.SameSolutions(x, y) {
				t.Errorf("ShiftingTo %q, %q: got %s, and the equation has %s", u, w, told(x), told(y))
			}
			shifts, _ := impl.ShiftsOf(w, u)
			if (told(x) != "") != (len(shifts) > 0) {
				t.Errorf("ShiftingTo %q, %q: got %s, and the shifts are %v", u, w, told(x), shifts)
			}
			if n, code := impl.CountWords(x, int64(max(len(w)-1, 0))); !x.Every && (n != int64(len(shifts)) || code != impl.OK) {
				t.Errorf("ShiftingTo %q, %q: %d words are short, but the shifts are %v", u, w, n, shifts)
			}
		}
	}
}
