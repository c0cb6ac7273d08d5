package tests

import (
	"math"
	"slices"
	"strings"
	"testing"

	"loop.example/g01143/impl"
)

// badTotals are numbers that are neither totals nor lengths.
var badTotals = []int64{-1, 13, math.MinInt64, math.MaxInt64}

func TestLimitsOfSystems(t *testing.T) {
	same(t, "limits", "4 12 10 4000", impl.MaxEquations, impl.MaxTotal, impl.MaxFree, impl.MaxText)
}

// lengthRowOf returns the row of an equation for its lengths, by counting.
func lengthRowOf(e impl.Equation) []int64 {
	letters := surplus(e, "a") + surplus(e, "b") + surplus(e, "c") + surplus(e, "d")
	return []int64{surplus(e, "X"), surplus(e, "Y"), surplus(e, "Z"), surplus(e, "W"), letters}
}

func TestRows(t *testing.T) {
	list := append(equations(textsUpTo("abXW", 2)), equation("aWbWcdd = XXYcWYYdZ"), equation(strings.Repeat("X", 24)+" = "), equation(" = "+strings.Repeat("d", 24)))
	for _, e := range list {
		want := lengthRowOf(e)
		row, code := impl.LengthRow(e)
		if !slices.Equal(row, want) || code != impl.OK {
			t.Errorf("LengthRow %q: got %v, %d, want %v", e, row, code, want)
		}
		for _, letter := range []string{"a", "b", "c", "d"} {
			want[4] = surplus(e, letter)
			row, code = impl.LetterRow(e, letter)
			if !slices.Equal(row, want) || code != impl.OK {
				t.Errorf("LetterRow %q, %q: got %v, %d, want %v", e, letter, row, code, want)
			}
		}
	}
}

func TestRowEdges(t *testing.T) {
	row, code := impl.LengthRow(equation(" = "))
	same(t, "empty terms", `[0 0 0 0 0] 0`, row, code)
	row, code = impl.LengthRow(equation("aXabWW = YcZXXX"))
	same(t, "all unknowns", `[-2 -1 -1 2 2] 0`, row, code)
	row, code = impl.LetterRow(equation("aXabWW = YcZXXX"), "c")
	same(t, "a letter", `[-2 -1 -1 2 -1] 0`, row, code)
	row, code = impl.LetterRow(equation(" = "), "d")
	same(t, "a letter of empty terms", `[0 0 0 0 0] 0`, row, code)
	for _, bad := range []string{"", "e", "A", "X", "ab", "aa", "a ", " ", "\x00", "\xff", "abcd", strings.Repeat("a", 1000000)} {
		row, code = impl.LetterRow(equation("a = X"), bad)
		same(t, "no letter", `[] 2`, row, code)
		row, code = impl.LetterRow(impl.Equation{Left: "e"}, bad)
		same(t, "no equation comes first", `[] 1`, row, code)
	}
	for _, bad := range noEquations() {
		row, code = impl.LengthRow(bad)
		same(t, "LengthRow", `[] 1`, row, code)
		row, code = impl.LetterRow(bad, "a")
		same(t, "LetterRow", `[] 1`, row, code)
	}
}

// TestRowsOfSolutions finds that rows are 0 for each solution.
func TestRowsOfSolutions(t *testing.T) {
	found := 0
	for _, text := range []string{"XY = YX", "Xab = baX", "XaY = YaX", "aXbY = Yab", "XXc = cYX", "ZdX = WZ", "X = abca", "aXXb = YbWb"} {
		e := equation(text)
		rows := map[string][]int64{}
		rows["abcd"], _ = impl.LengthRow(e)
		for _, letter := range []string{"a", "b", "c", "d"} {
			rows[letter], _ = impl.LetterRow(e, letter)
		}
		for _, v := range valuesUpTo(unknownsIn(system(text)), 4) {
			if !solves(system(text), v) {
				continue
			}
			found++
			for letters, row := range rows {
				sum := row[4]
				for x, w := range v {
					for _, c := range letters {
						sum += row[x] * int64(strings.Count(w, string(c)))
					}
				}
				if sum != 0 {
					t.Errorf("%q: the row of %q has the sum %d for %q", text, letters, sum, v)
				}
			}
		}
	}
	if found < 500 {
		t.Errorf("only %d solutions", found)
	}
}

// lengthListsOf returns the lists of lengths by trying all.
func lengthListsOf(list []impl.Equation, most int64) [][]int64 {
	var found [][]int64
	side := int64(13)
	for n := range side * side * side * side {
		lengths := []int64{n / (side * side * side), n / (side * side) % side, n / side % side, n % side}
		fits := sumOf(lengths) <= most
		for _, e := range list {
			row := lengthRowOf(e)
			sum := row[4]
			for x, length := range lengths {
				sum += row[x] * length
			}
			fits = fits && sum == 0
		}
		for x, length := range lengths {
			fits = fits && (length == 0 || strings.Contains(unknownsIn(list), signs[4+x:5+x]))
		}
		if fits {
			found = append(found, lengths)
		}
	}
	return found
}

func TestLengthLists(t *testing.T) {
	lists := [][]impl.Equation{nil, system(" = "), system("XXa = Ya"), system("XZ = ZaX"), system("aXW = WYY"), system("XY = YX", "Zaa = WW", "aX = Xb"), system("X = Y", "Y = Z", "Z = W", "W = X"), system("YYYYY = abX"), system("X = X", "Y = Y", "Z = ZW", "Y = aaX")}
	for _, list := range lists {
		for _, most := range []int64{0, 1, 5, 12} {
			got, code := impl.LengthLists(list, most)
			if code != impl.OK {
				t.Fatalf("LengthLists %q, %d: code %d", list, most, code)
			}
			sameLists(t, impl.SystemText(list), got, lengthListsOf(list, most))
		}
	}
}

func TestLengthListsEdges(t *testing.T) {
	check := func(list []impl.Equation, most int64, want string) {
		t.Helper()
		got, code := impl.LengthLists(list, most)
		same(t, impl.SystemText(list), want, got, code)
	}
	check(nil, 12, `[[0 0 0 0]] 0`)
	check(nil, 0, `[[0 0 0 0]] 0`)
	check(system("a = b"), 3, `[[0 0 0 0]] 0`)
	check(system("a = "), 12, `[] 0`)
	check(system("Z = Z"), 2, `[[0 0 0 0] [0 0 1 0] [0 0 2 0]] 0`)
	check(system("Z = "), 12, `[[0 0 0 0]] 0`)
	check(system("XY = YX"), 2, `[[0 0 0 0] [0 1 0 0] [0 2 0 0] [1 0 0 0] [1 1 0 0] [2 0 0 0]] 0`)
	check(system("X = X", " = ", "Y = aW"), 2, `[[0 1 0 0] [1 1 0 0]] 0`)
	check(system("X = "+strings.Repeat("a", 12)), 12, `[[12 0 0 0]] 0`)
	check(system("X = "+strings.Repeat("a", 12)), 11, `[] 0`)
	check(system("X = "+strings.Repeat("a", 13)), 12, `[] 0`)
	check(system("W = aZ", "a = a"), 1, `[[0 0 0 1]] 0`)
	all, code := impl.LengthLists(system("XYZW = WZYX"), 12)
	if len(all) != 1820 || code != impl.OK || !slices.IsSortedFunc(all, slices.Compare[[]int64]) {
		t.Errorf("all lists: %d, %d", len(all), code)
	}
	for _, most := range badTotals {
		check(system("X = a"), most, `[] 2`)
		check([]impl.Equation{{Left: "e"}}, most, `[] 1`)
	}
	for _, bad := range noSystems() {
		check(bad, 1, `[] 1`)
	}
}

// provesNone reports by counting whether factors are a proof.
func provesNone(list []impl.Equation, factors []int64) bool {
	total := int64(0)
	for k, letter := range []string{"a", "b", "c", "d"} {
		sums := map[string]int64{}
		for i, e := range list {
			for _, sign := range []string{letter, "X", "Y", "Z", "W"} {
				sums[sign] += (factors[5*i] + factors[5*i+1+k]) * surplus(e, sign)
			}
		}
		if sums["X"] < 0 || sums["Y"] < 0 || sums["Z"] < 0 || sums["W"] < 0 {
			return false
		}
		total += sums[letter]
	}
	return total > 0
}

// firstProof returns the first proof of which all numbers are -1, 0 or 1.
func firstProof(list []impl.Equation, begun []int64) []int64 {
	if len(begun) == 5*len(list) {
		if provesNone(list, begun) {
			return slices.Clone(begun)
		}
		return nil
	}
	for f := range int64(3) {
		if found := firstProof(list, append(begun, f-1)); found != nil {
			return found
		}
	}
	return nil
}

func TestIsNoProof(t *testing.T) {
	lists := [][]impl.Equation{system("aX = Xb"), system("aaX = "), system("Xa = Yb", "Y = X"), system("XXYa = Zb", "ZbbW = XY", "Wa = X"), system("aX = b", "bY = Xa", "cZ = Yd", "Xd = W")}
	proofs, number := 0, uint64(1)
	for _, list := range lists {
		for range 4000 {
			var factors []int64
			for range 5 * len(list) {
				number = number*6364136223846793005 + 1442695040888963407
				factors = append(factors, int64(number>>33)%19-9)
			}
			want := provesNone(list, factors)
			yes, code := impl.IsNoProof(list, factors)
			if yes != want || code != impl.OK {
				t.Fatalf("IsNoProof %q, %v: got %v, %d", list, factors, yes, code)
			}
			if want {
				proofs++
			}
		}
	}
	if proofs < 1000 || proofs > 10000 {
		t.Errorf("%d proofs", proofs)
	}
}

func TestIsNoProofEdges(t *testing.T) {
	check := func(list []impl.Equation, want string, factors ...int64) {
		t.Helper()
		yes, code := impl.IsNoProof(list, factors)
		same(t, impl.SystemText(list), want, yes, code)
	}
	ends := system("aX = Xb")
	check(ends, `true 0`, 0, 1, 0, 0, 0)
	check(ends, `true 0`, -9, 9, -9, -9, 9)
	check(ends, `false 0`, 0, 0, 1, 0, 0)
	check(ends, `false 0`, 0, 0, 0, 0, 0)
	check(ends, `false 0`, 9, 1, 1, 0, 0) // both together are just 0
	check(system("aX = "), `true 0`, 1, 0, 0, 0, 0)
	check(system("aX = "), `true 0`, 1, 0, -1, -1, -1) // X has 0 for three letters
	check(system("aX = "), `false 0`, 0, 9, 0, 0, -1)  // but less than 0 for "d"
	check(system("aX = "), `false 0`, -1, 0, 0, 0, 0)
	for _, x := range []string{"X", "Y", "Z", "W"} {
		check(system("a = "+x), `false 0`, 1, 0, 0, 0, 0) // less than 0 for the unknown
		check(system(x+" = a"), `false 0`, -1, 0, 0, 0, 0)
		check(system(x+"a = "), `true 0`, 1, 0, 0, 0, 0)
	}
	check(system("aX = Y", "Y = "), `true 0`, 1, 0, 0, 0, 0, 1, 0, 0, 0, 0)
	check(system("W = Wa"), `true 0`, 0, -1, 9, 9, 9)
	check(system("Z = W", "a = b"), `true 0`, 0, 0, 0, 0, 0, 0, 0, -1, 0, 0)
	check(nil, `false 0`)
	check(nil, `false 2`, 0)
	for _, n := range []int{0, 1, 4, 6, 10} {
		check(ends, `false 2`, make([]int64, n)...)
	}
	check(ends, `false 2`, make([]int64, 900000)...)
	for k := range 5 {
		for _, bad := range []int64{-10, 10, math.MinInt64, math.MaxInt64} {
			factors := []int64{0, 1, 0, 0, 0}
			factors[k] = bad
			check(ends, `false 2`, factors...)
			check([]impl.Equation{{Left: "e"}}, `false 1`, factors...)
		}
	}
	for _, bad := range noSystems() {
		check(bad, `false 1`, make([]int64, 5)...)
		check(bad, `false 1`)
	}
}

func TestFindNoProof(t *testing.T) {
	found := 0
	for _, e := range equations(textsUpTo("abXY", 2)) {
		list := []impl.Equation{e}
		want := firstProof(list, nil)
		got, code := impl.FindNoProof(list)
		if !slices.Equal(got, want) || (code == impl.OK) != (want != nil) || want == nil && code != impl.ErrNotFound {
			t.Fatalf("FindNoProof %q: got %v, %d, want %v", e, got, code, want)
		}
		if want == nil {
			continue
		}
		found++
		for total := range int64(5) {
			n, code := impl.CountSolutions(list, total)
			same(t, "solutions in spite of a proof of "+impl.SystemText(list), `0 0`, n, code)
		}
	}
	if found < 100 {
		t.Errorf("only %d proofs", found)
	}
	for _, texts := range [][]string{{"Xa = Yb", "Y = X"}, {"aX = Y", "Yb = X"}, {"XY = aYX", "Z = W"}, {"XY = YX", "aZ = Zb"}, {"Xc = cX", "Xd = dX"}} {
		want := firstProof(system(texts...), nil)
		got, code := impl.FindNoProof(system(texts...))
		if !slices.Equal(got, want) || (code == impl.OK) != (want != nil) {
			t.Errorf("FindNoProof %q: got %v, %d, want %v", texts, got, code, want)
		}
	}
}

func TestFindNoProofEdges(t *testing.T) {
	check := func(list []impl.Equation, want string) {
		t.Helper()
		got, code := impl.FindNoProof(list)
		same(t, impl.SystemText(list), want, got, code)
	}
	check(system("aX = Xb"), `[-1 0 -1 -1 -1] 0`)
	check(system("Xb = aX"), `[-1 -1 0 -1 -1] 0`)
	check(system(" = a"), `[-1 -1 -1 -1 -1] 0`)
	check(system("d = "), `[0 -1 -1 -1 1] 0`)
	check(system("X = Xdd"), `[-1 -1 -1 -1 -1] 0`)
	check(system("X = X", "a = "), `[-1 -1 -1 -1 -1 0 1 -1 -1 -1] 0`)
	check(nil, `[] 6`)
	check(system(" = "), `[] 6`)
	check(system("XY = YX", "aX = Xa"), `[] 6`)
	check(system("XaY = YaX"), `[] 6`)
	check(system("aX = Xb", "aX = Xb", " = a"), `[] 3`)
	check(system("a = ", "a = ", "a = ", "a = "), `[] 3`)
	check(system(" = ", " = ", " = "), `[] 3`)
	for _, bad := range noSystems() {
		check(bad, `[] 1`)
	}
}
