package tests

import (
	"fmt"
	"math"
	"slices"
	"strings"
	"testing"

	"loop.example/g01143/impl"
)

// greatNumbers are very great numbers, some of which give small or negative products if these do not fit.
var greatNumbers = []int64{1000001, 1 << 31, 1 << 32, 1 << 60, 1 << 61, 1 << 62, 3 << 61, math.MaxInt64/3 + 1, math.MaxInt64 - 1, math.MaxInt64}

func TestFamilyAt(t *testing.T) {
	for _, f := range goodFamilies() {
		for k := range 70 {
			want := valuesFor(f, k)
			text := fmt.Sprintf("%q 0", want)
			if slices.Max(lengthsOf(want)) > 60 {
				text = `[] 3`
			}
			got, code := impl.FamilyAt(f, int64(k))
			same(t, fmt.Sprint("FamilyAt ", f, k), text, got, code)
		}
	}
}

func TestFamilyAtEdges(t *testing.T) {
	check := func(f impl.Family, k int64, want string) {
		t.Helper()
		got, code := impl.FamilyAt(f, k)
		same(t, fmt.Sprint("FamilyAt ", f, k), want, got, code)
	}
	all60 := `"` + strings.Repeat("a", 60) + `"`
	check(family("a^0+1k"), 0, `["" "" "" ""] 0`)
	check(family("ab^0+2k c^0+1k", "d^1+0k a^0+3k", "b^0+0k"), 0, `["" "d" "" ""] 0`) // these vanish, but for one
	check(family("ab^0+2k c^0+1k", "d^1+0k a^0+3k", "b^0+0k"), 1, `["ababc" "daaa" "" ""] 0`)
	check(family("a^0+0k b^1+0k c^0+0k", "", "", "d^0+0k"), 7, `["b" "" "" ""] 0`)
	check(family("a^1+1k b^2+1k a^3+2k"), 2, `["aaabbbbaaaaaaa" "" "" ""] 0`)
	for x := range 4 {
		at := func(text string) impl.Family {
			f := family()
			f.Parts[x] = pieces(text)
			return f
		}
		want := strings.Repeat(`"" `, x) + all60 + strings.Repeat(` ""`, 3-x)
		check(at("a^0+1k"), 60, "["+want+"] 0")
		check(at("a^0+1k"), 61, `[] 3`)
		check(at("a^1+1k"), 60, `[] 3`)
		check(at("aa^0+3k"), 10, "["+want+"] 0")
		check(at("aa^0+3k"), 11, `[] 3`)
		check(at("a^57+3k"), 1, "["+want+"] 0")
		check(at("a^57+3k"), 2, `[] 3`)
		check(at("a^1+0k a^0+1k aaa^0+1k"), 14, "["+strings.Replace(want, "aaa", "", 1)+"] 0")
		check(at("a^1+0k a^0+1k aaa^0+1k"), 15, `[] 3`)
		check(at("a^60+0k"), 5, "["+want+"] 0")
		check(at("a^60+0k a^1+0k"), 0, `[] 3`)
		check(at("a^60+0k a^0+1k"), 0, "["+want+"] 0")
		for _, k := range greatNumbers {
			check(at("a^60+0k b^0+0k"), k, "["+want+"] 0")
			check(at("a^60+0k b^1+0k"), k, `[] 3`)
			for _, text := range []string{"a^0+1k", "aa^0+1k", "aaaa^0+1k", "a^0+2k", "aa^0+2k", "a^0+3k", "a^1+0k aaaa^0+2k", "abababab^60+2k abababab^0+2k", sixty + "^60+3k"} {
				check(at(text), k, `[] 3`)
			}
		}
	}
	for _, k := range []int64{-1, -2, -61, math.MinInt64} {
		check(family("a^1+1k"), k, `[] 2`)
		check(family(), k, `[] 2`)
		check(longestFamily(), k, `[] 2`)
	}
	for _, f := range badFamilies() {
		for _, k := range []int64{-1, 0, math.MaxInt64} {
			got, code := impl.FamilyAt(f, k)
			same(t, "FamilyAt of no family", `[] 1`, got, code)
		}
	}
}

func TestFamilyLengths(t *testing.T) {
	for _, f := range goodFamilies() {
		for _, k := range []int64{0, 1, 2, 3, 60, 61, 1000, 999999, 1000000} {
			var want []int64
			for _, list := range f.Parts {
				n := int64(0)
				for _, p := range list {
					n += int64(len(p.Word))*p.Fixed + int64(len(p.Word))*p.Slope*k
				}
				want = append(want, n)
			}
			got, code := impl.FamilyLengths(f, k)
			same(t, fmt.Sprint("FamilyLengths ", f, k), fmt.Sprint(want, 0), got, code)
			if k < 4 && !slices.Equal(got, lengthsOf(valuesFor(f, int(k)))) {
				t.Errorf("FamilyLengths of %v and %d: got %v", f, k, got)
			}
		}
		for _, k := range append(greatNumbers, -1, -1000000, math.MinInt64) {
			got, code := impl.FamilyLengths(f, k)
			same(t, fmt.Sprint("FamilyLengths ", f, k), `[] 2`, got, code)
		}
	}
	got, code := impl.FamilyLengths(longestFamily(), 1000000)
	same(t, "the greatest lengths", `[720014400 720014400 720014400 720014400] 0`, got, code)
	for _, f := range badFamilies() {
		for _, k := range []int64{-1, 0, 1, 1000001} {
			got, code = impl.FamilyLengths(f, k)
			same(t, "FamilyLengths of no family", `[] 1`, got, code)
		}
	}
}

// familySystems are systems of all kinds.
func familySystems() [][]impl.Equation {
	list := [][]impl.Equation{nil, system("X = Y", "Y = X"), system("XY = YX", "XaY = YaX"), system("X = X", "a = a", "Y = Y", " = "), system("X = X", "a = b"), system("Xa = aX", "Yb = bY"), system("Z = W", "X = Y")}
	for _, text := range []string{
		" = ", "a = a", "a = b", "abcd = abdc", "a = ", "X = X", "X = ", " = Y", "X = a", "X = Y", "Xa = aX", "XY = YX", "Xb = aY", "XX = Y", "XaX = YaY", "XYX = aYa", "Z = Z", "XZ = ZX", "XZY = YZX", "bXaY = YbXa", "XXX = YYa", "aaaXb = XaaaY", "W = W",
	} {
		list = append(list, system(text))
	}
	return list
}

// smallFamilies are families with small values for X and Y, some of them with one for Z.
func smallFamilies() []impl.Family {
	var list []impl.Family
	parts := []string{"", "a^0+0k", "a^0+1k", "a^1+1k", "a^3+0k", "aa^0+1k", "a^0+2k", "b^0+1k", "ab^0+1k", "ab^1+1k a^1+0k", "ba^0+1k b^1+0k", "a^0+1k b^1+1k", "ab^0+1k b^1+0k", "a^1+0k ba^0+1k", "a^2+0k b^0+1k a^0+1k", "a^0+3k", "aaa^0+1k"}
	for i, x := range parts {
		for k, y := range parts {
			list = append(list, family(x, y, parts[(i+k)%4]))
		}
	}
	return append(list,
		family("bab^0+1k a^0+1k ba^1+0k", "ba^1+0k b^0+1k aba^0+1k"), family("bab^0+1k a^0+1k ba^1+0k b^1+0k", "ba^1+0k b^0+1k aba^0+1k b^1+1k"),
		family("abb^0+1k a^0+1k b^0+1k ab^1+0k", "ba^1+0k b^0+1k a^0+1k bba^0+1k"), family("a^2+1k", "a^1+1k a^1+0k", "a^0+1k", "a^2+3k"))
}

func TestTestNumber(t *testing.T) {
	for _, f := range append(smallFamilies(), goodFamilies()...) {
		for _, list := range append(familySystems(), system("XXXYYZWWWWWW = abcabcabcXd", strings.Repeat("ZW", 12)+" = "+strings.Repeat("W", 24), "XYZW = ", " = XYZW")) {
			n, code := impl.TestNumber(list, f)
			same(t, fmt.Sprint("TestNumber ", list, f), fmt.Sprint(testNumberOf(list, f), " 0"), n, code)
		}
	}
	check := func(list []impl.Equation, f impl.Family, want string) {
		t.Helper()
		n, code := impl.TestNumber(list, f)
		same(t, fmt.Sprint("TestNumber ", list, f), want, n, code)
	}
	check(nil, longestFamily(), `4 0`)
	check(system(" = "), longestFamily(), `4 0`)
	check(system("abc = abcd", "a = "), longestFamily(), `20 0`)
	check(system("X = "), family("", "a^1+1k"), `4 0`)
	check(system("X = Y"), family("abc^0+0k", "ab^0+0k"), `4 0`)
	check(system("X = Y"), family("abc^2+0k", "ab^0+3k"), `20 0`)
	check(system("X = Y"), family("abc^2+1k a^1+0k", "ab^3+3k b^0+1k"), `42 0`)
	check(system("XX = ", "X = "), family("abc^2+1k"), `58 0`)
	most := impl.Equation{Left: strings.Repeat("XYZW", 6), Right: strings.Repeat("XYZW", 6)}
	check([]impl.Equation{most, most, most, most}, longestFamily(), fmt.Sprint(4+2*192*4*60*61, " 0"))
	for _, bad := range noSystems() {
		check(bad, family(), `0 1`)
	}
	for _, bad := range badFamilies() {
		n, code := impl.TestNumber(system("X = a"), bad)
		same(t, "TestNumber of no family", `0 1`, n, code)
		n, code = impl.TestNumber(nil, bad)
		same(t, "TestNumber of no family and no equation", `0 1`, n, code)
	}
}

func TestHoldsAt(t *testing.T) {
	for _, f := range append(smallFamilies(), family("ab^3+1k a^1+0k", "ab^2+1k aba^1+0k", "b^2+3k", "b^5+1k b^0+2k")) {
		for _, list := range familySystems() {
			for k := range 7 {
				got, code := impl.HoldsAt(list, f, int64(k))
				same(t, fmt.Sprint("HoldsAt ", list, f, k), fmt.Sprint(solves(list, valuesFor(f, k)), " 0"), got, code)
			}
		}
	}
}

// manyLetters has with each of 13 X, Y, Z or W together 187200 letters, and with 14 of them too many.
func manyLetters() impl.Family {
	part := strings.Repeat(sixty+"^60+0k ", 4)
	return family(part, part, part, part)
}

func TestHoldsAtEdges(t *testing.T) {
	check := func(list []impl.Equation, f impl.Family, k int64, want string) {
		t.Helper()
		got, code := impl.HoldsAt(list, f, k)
		same(t, fmt.Sprint("HoldsAt ", list, f, k), want, got, code)
	}
	a := family("a^0+1k")
	// Just MaxCompared letters in a term, and one more, in each place.
	for text, want := range map[string]string{"X = X": "true 0", "X = ": "false 0", " = X": "false 0", "a = X": "false 0", "XY = X": "true 0"} {
		check(system(text), a, 200000, want)
		check(system(text), a, 200001, `false 3`)
	}
	check(system("a = a", "b = b", " = ", "X = X"), a, 200000, `true 0`)
	check(system("a = a", "b = b", " = ", "X = X"), a, 200001, `false 3`)
	check(system("a = a", "b = b", " = ", "aX = b"), a, 199999, `false 0`)
	check(system("a = a", "b = b", " = ", "aX = b"), a, 200000, `false 3`)
	check(system("X = X", "aX = aX"), a, 199999, `true 0`)
	check(system("X = X", "aX = Xa"), a, 199999, `true 0`)
	check(system("X = X", "bX = Xb"), a, 199999, `false 0`)
	check(system("X = X", "aX = aX"), a, 200000, `false 3`)
	check(system("aX = aX", "X = X"), a, 200000, `false 3`)
	check(system("a = b", "aX = aX"), a, 200000, `false 3`) // the limit is checked ahead of all else
	check(system("a = b", "a = aX"), a, 200000, `false 3`)
	check(system("X = Y"), family("a^0+3k", "a^10+3k"), 66663, `false 0`)
	check(system("X = Y"), family("a^0+3k", "a^12+3k"), 66663, `false 3`)
	check(system("X = X"), family(sixty+"^0+3k"), 1111, `true 0`)
	check(system("X = X"), family(sixty+"^0+3k"), 1112, `false 3`)
	check(system(strings.Repeat("X", 24)+" = "), a, 8333, `false 0`)
	check(system(strings.Repeat("X", 24)+" = "), a, 8334, `false 3`)
	check(system("XYZW = WZYX"), family("a^0+1k", "a^0+1k", "a^0+1k", "a^0+1k"), 50000, `true 0`)
	check(system("XYZW = WZYX"), family("a^0+1k", "a^0+1k", "a^0+1k", "a^0+1k"), 50001, `false 3`)
	check(system("X = Y"), family("ab^0+1k a^1+0k", "a^1+0k ba^0+1k"), 99999, `true 0`)
	check(system("X = Y"), family("ab^0+1k a^1+0k", "a^1+0k ba^0+1k"), 100000, `false 3`)
	check(system("X = Y"), family("ab^0+1k a^1+0k", "a^1+0k ba^0+1k"), 200, `true 0`)
	check(system("X = Y"), family("ab^0+1k a^1+0k", "a^1+0k ab^0+1k"), 200, `false 0`)
	// Very great numbers, with a Slope and without one, also of unknowns that do not occur.
	many := manyLetters()
	for _, k := range append(greatNumbers, 200001) {
		for _, text := range []string{"a^0+1k", "aa^0+1k", "aaaa^0+1k", "a^0+2k", "aa^0+2k", "aaaaaaaa^0+2k", "a^1+0k aaaa^0+1k", "abababab^60+2k abababab^0+2k", sixty + "^60+3k"} {
			check(system("X = X"), family(text), k, `false 3`)
			check(system("a = a", "Z = W"), family("", "", "", text), k, `false 3`)
			check(system("X = a", "Z = Z"), family("a^1+0k", text, "", text), k, `true 0`)
			check(system("X = b"), family("a^1+0k", text, text, text), k, `false 0`)
			check(nil, family(text, text, text, text), k, `true 0`)
			check(system("ab = ab", " = "), family(text, text, text, text), k, `true 0`)
			check(system("ab = ba"), family(text, text, text, text), k, `false 0`)
		}
		check(system("XXXXXXXXXXXXX = XYZWXYZWXYZWX"), many, k, `true 0`)
		check(system("XXXXXXXXXXXXXa = XYZWXYZWXYZWXb"), many, k, `false 0`)
		check(system("XXXXXXXXXXXXXX = "), many, k, `false 3`)
		check(system("a = ", " = XYZWXYZWXYZWXY"), many, k, `false 3`)
	}
	check(system("XXXXXXXXXXXXXX = "), many, 0, `false 3`)
	for _, k := range []int64{-1, -2, -200001, math.MinInt64} {
		check(system("X = a"), a, k, `false 2`)
		check(nil, a, k, `false 2`)
		check(system("X = a"), family("a^1+0k"), k, `false 2`)
		check(system("XXXXXXXXXXXXXX = "), many, k, `false 2`)
		check([]impl.Equation{{Left: "e"}}, a, k, `false 1`)
		check(nil, impl.Family{}, k, `false 1`)
	}
	for _, bad := range noSystems() {
		check(bad, a, 0, `false 1`)
		check(bad, a, math.MaxInt64, `false 1`)
	}
	for _, bad := range badFamilies() {
		for _, list := range [][]impl.Equation{nil, system("X = a"), system("a = b")} {
			got, code := impl.HoldsAt(list, bad, 0)
			same(t, "HoldsAt of no family", `false 1`, got, code)
		}
	}
}

// checkAlways compares what is told of a family at all numbers with what it does at each number up to the test number, and a few more.
func checkAlways(t *testing.T, list []impl.Equation, f impl.Family) {
	t.Helper()
	var verdicts []bool
	for k := range int(testNumberOf(list, f)) + 3 {
		holds, code := impl.HoldsAt(list, f, int64(k))
		if holds != solves(list, valuesFor(f, k)) || code != impl.OK {
			t.Fatalf("HoldsAt of %q, %v and %d: got %v, %d", list, f, k, holds, code)
		}
		verdicts = append(verdicts, holds)
	}
	first := slices.Index(verdicts, false)
	if verdicts[testNumberOf(list, f)] != (first < 0) {
		t.Errorf("%q, %v: the test number is wrong: %v", list, f, verdicts)
	}
	always, code := impl.HoldsAlways(list, f)
	same(t, fmt.Sprint("HoldsAlways ", list, f), fmt.Sprint(first < 0, " 0"), always, code)
	want := fmt.Sprint(first, " 0")
	if first < 0 {
		want = `0 6`
	}
	n, code := impl.FirstFailing(list, f)
	same(t, fmt.Sprint("FirstFailing ", list, f), want, n, code)
}

func TestAlways(t *testing.T) {
	for i, f := range smallFamilies() {
		for k, list := range familySystems() {
			if (i+k)%3 == 0 || i > 288 {
				checkAlways(t, list, f)
			}
		}
	}
}

func TestFirstFailing(t *testing.T) {
	check := func(list []impl.Equation, f impl.Family, want string) {
		t.Helper()
		n, code := impl.FirstFailing(list, f)
		same(t, fmt.Sprint("FirstFailing ", list, f), want, n, code)
		always, code := impl.HoldsAlways(list, f)
		wantAlways := `false 0`
		if want == `0 6` {
			wantAlways = `true 0`
		}
		same(t, fmt.Sprint("HoldsAlways ", list, f), wantAlways, always, code)
		checkAlways(t, list, f)
	}
	a := family("a^0+1k")
	check(nil, a, `0 6`)
	check(nil, longestFamily(), `0 6`)
	check(system(" = "), longestFamily(), `0 6`)
	check(system("ab = ab"), longestFamily(), `0 6`)
	check(system("a = b"), longestFamily(), `0 0`)
	check(system("X = X"), a, `0 6`)
	check(system("Xa = aX"), a, `0 6`)
	check(system("Xb = bX"), a, `1 0`) // holds at 0 alone
	check(system("X = "), a, `1 0`)
	check(system("X = a"), a, `0 0`) // holds at 1 alone
	check(system("X = aaaaaaa"), a, `0 0`)
	check(system("X = b"), a, `0 0`) // holds nowhere
	check(system("Y = a"), a, `0 0`)
	check(system("X = a"), family("a^1+1k"), `1 0`)
	check(system("X = Y"), family("a^0+1k b^1+1k", "ab^0+1k b^1+0k"), `2 0`)
	check(system("X = Y"), family("bab^0+1k a^0+1k ba^1+0k", "ba^1+0k b^0+1k aba^0+1k"), `3 0`)
	check(system("Xabba = abbaY"), family("abb^0+1k a^0+1k b^0+1k", "b^0+1k a^0+1k bba^0+1k"), `3 0`)
	check(system("XabbaYa = XabbaYa", "Z = W"), family("abb^0+1k", "b^2+1k", "bab^0+1k a^0+1k ba^1+0k", "ba^1+0k b^0+1k aba^0+1k"), `3 0`)
	// The least number of several equations is told, whichever comes first.
	third, second := system("X = Y")[0], system("Z = W")[0]
	both := family("bab^0+1k a^0+1k ba^1+0k", "ba^1+0k b^0+1k aba^0+1k", "a^0+1k b^1+1k", "ab^0+1k b^1+0k")
	check([]impl.Equation{third, second}, both, `2 0`)
	check([]impl.Equation{second, third}, both, `2 0`)
	check([]impl.Equation{third, third}, both, `3 0`)
	check([]impl.Equation{third, equation("aX = Xb")}, both, `0 0`)
	check(append(system("XZ = XZ", "a = a"), third, second), both, `2 0`)
	check(system("X = Y"), family("a^0+3k", "a^60+0k"), `0 0`)
	check(system("X = Y"), family("ab^1+3k a^1+0k", "a^1+0k ba^0+2k ba^1+1k"), `0 6`)
	check(system("X = Y"), family("ab^1+3k a^1+0k", "a^1+0k ba^0+2k ba^2+1k"), `0 0`)
	for _, bad := range noSystems() {
		n, code := impl.FirstFailing(bad, a)
		always, alwaysCode := impl.HoldsAlways(bad, a)
		same(t, "no system", `0 1 false 1`, n, code, always, alwaysCode)
	}
	for _, bad := range badFamilies() {
		for _, list := range [][]impl.Equation{nil, system("X = a"), system("a = b")} {
			n, code := impl.FirstFailing(list, bad)
			always, alwaysCode := impl.HoldsAlways(list, bad)
			same(t, "no family", `0 1 false 1`, n, code, always, alwaysCode)
		}
	}
}

// TestAlwaysLimits looks at systems in which a term has just MaxCompared letters at the test number, and at such with one more.
func TestAlwaysLimits(t *testing.T) {
	check := func(list []impl.Equation, f impl.Family, longest int64, want string) {
		t.Helper()
		n := testNumberOf(list, f)
		lengths, _ := impl.FamilyLengths(f, n)
		own := int64(0)
		for _, e := range list {
			for _, term := range []string{e.Left, e.Right} {
				sum := int64(0)
				for _, sign := range term {
					if x := strings.IndexRune("XYZW", sign); x >= 0 {
						sum += lengths[x]
					} else {
						sum++
					}
				}
				own = max(own, sum)
			}
		}
		if longest > 0 && own != longest {
			t.Fatalf("%q, %v: the longest term has %d letters at %d", list, f, own, n)
		}
		got, code := impl.HoldsAlways(list, f)
		first, firstCode := impl.FirstFailing(list, f)
		same(t, fmt.Sprint("limits of ", list, f), want, got, code, first, firstCode)
	}
	word := strings.Repeat("b", 60)
	y, z := strings.Repeat(word+"^60+0k ", 4), word+"^60+0k "+word+"^60+0k "+word+"^31+0k"
	f := family("a^0+1k", y, z)
	// With c letters that stay at the left, and d ones at the right, the test number is 6 + 2c + 2d.
	check(system("XYYYYZ = bbbbbbb"), f, 200000, `false 0 0 0`)
	check(system("aXaYYYYZ = bbbb"), f, 200000, `false 0 0 0`)
	check(system("bbbbbbb = XYYYYZ"), f, 200000, `false 0 0 0`)
	check(system("XYYYYZb = bbbbbb"), f, 200001, `false 3 0 3`)
	check(system("bbbbbb = bXYYYYZ"), f, 200001, `false 3 0 3`)
	check(system("a = b", "bbbb = bXYYYYZ"), f, 200001, `false 3 0 3`)
	// A family that holds, with c letters beside X, and e ones at both sides of another equation: 8 + 5c + 4e.
	g := family("a^0+1k", y, strings.Repeat(word+"^60+0k ", 3)+word[:11]+"^36+0k")
	check(system("XYYZ = XYYZ", "aaa = aaa"), g, 200000, `true 0 0 6`)
	check(system("XYYZb = bXYYZ", "aa = a"), g, 199999, `false 0 0 0`)
	check(system("XYYZb = XYYZb", "aa = aa"), g, 200001, `false 3 0 3`)
	g.Parts[0] = pieces("b^0+1k")
	check(system("aaa = aaa", "XYYZ = YXZY"), g, 200000, `true 0 0 6`)
	check(system("aa = aa", "XYYZb = YbXZY"), g, 200001, `false 3 0 3`)
	// Long terms without a Slope, and test numbers that are greater than any number of letters.
	many := manyLetters()
	check(system("XXXXXXXXXXXXX = XYZWXYZWXYZWX"), many, 187200, `true 0 0 6`)
	check(system("XXXXXXXXXXXXX = XYZWXYZWXYZWXa"), many, 187201, `false 0 0 0`)
	check(system("XXXXXXXXXXXXXX = XYZWXYZWXYZWXY"), many, 201600, `false 3 0 3`)
	slope := manyLetters()
	slope.Parts[3] = pieces("a^0+1k")
	check(system("XXXXXXXXXXXXX = XYZXXYZXXYZXX"), slope, 187200, `true 0 0 6`) // W does not occur
	check(system("XXXXXXXXXXXXX = XYZXXYZXXYZXX", "W = W"), slope, 0, `false 3 0 3`)
}
