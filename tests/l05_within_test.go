package tests

import (
	"fmt"
	"math"
	"slices"
	"strings"
	"testing"

	"loop.example/g01143/impl"
)

// badSmallTotals are sums of lengths that may not be asked for.
var badSmallTotals = []int64{-1, 7, 12, math.MinInt64, math.MaxInt64}

// withinSystems are small systems, also such in which some unknowns, or all of them, do not occur.
func withinSystems() [][]impl.Equation {
	list := [][]impl.Equation{nil, system(" = "), system("a = b"), system("Xa = aX", "Yb = bY"), system("XY = YX", "X = Za"), system("Z = W", "W = Z"), system("X = X", "Y = Y"), system("X = a", "X = b")}
	for _, text := range []string{"X = X", "Xa = aX", "X = a", "XY = YX", "XaY = YaX", "X = YZ", "Xab = baX", "W = W", "ZX = YW", "aYb = YbY", "X = ", "Z = bW"} {
		list = append(list, system(text))
	}
	return list
}

// checkWithin compares the solutions within bounds with those that are found by trying all values up to a sum of lengths.
func checkWithin(t *testing.T, list []impl.Equation, b impl.Bounds, total int) {
	t.Helper()
	all := valuesUpTo(unknownsIn(list), total)
	for _, v := range all {
		got, code := impl.HoldsWithin(list, b, v)
		if got != holdsBy(list, b, v) || code != impl.OK {
			t.Fatalf("HoldsWithin %q, %v, %q: got %v, %d", list, b, v, got, code)
		}
	}
	all = slices.DeleteFunc(all, func(v []string) bool { return !holdsBy(list, b, v) })
	for n := range total + 1 {
		count := 0
		for _, v := range all {
			if sumOf(lengthsOf(v)) == int64(n) {
				count++
			}
		}
		got, code := impl.CountWithin(list, b, int64(n))
		same(t, fmt.Sprint("CountWithin ", list, b, n), fmt.Sprint(count, " 0"), got, code)
		least, code := impl.LeastWithin(list, b, int64(n))
		same(t, fmt.Sprint("LeastWithin ", list, b, n), leastResult(all, n), least, code)
	}
}

// leastResult returns what is to be told of the least ones of some values, in their order, up to a sum of lengths.
func leastResult(all [][]string, total int) string {
	least := leastOf(all)
	if least == nil || sumOf(lengthsOf(least)) > int64(total) {
		return `[] 6`
	}
	return fmt.Sprintf("%q 0", least)
}

func TestWithin(t *testing.T) {
	for _, b := range append(fewBounds(), bounds(0, overMaps, "03 1 12 2")) {
		for _, list := range withinSystems() {
			total := 3
			if len(unknownsIn(list)) > 2 {
				total = 2
			}
			checkWithin(t, list, b, total)
		}
	}
}

func TestHoldsWithinEdges(t *testing.T) {
	check := func(list []impl.Equation, b impl.Bounds, v []string, want string) {
		t.Helper()
		got, code := impl.HoldsWithin(list, b, v)
		same(t, fmt.Sprint("HoldsWithin ", list, b, v), want, got, code)
	}
	sixty := strings.Repeat("a", 60)
	none, onlyEmpty, notEmpty := bounds(0, "0000", "- - - -"), bounds(0, "1111 1111", "0 0 0 0"), bounds(0, "1111 1111", "1 1 1 1")
	check(nil, none, values("a", "b", "", "dd"), `true 0`)
	check(system(" = "), none, values("a", "b", "", "dd"), `true 0`)
	check(system("a = b"), everything(), values(), `false 0`)
	check(system("X = X"), none, values(), `false 0`)
	check(system("X = X"), none, values("a"), `false 0`)
	check(system("X = a"), everything(), values("a", "b", "", "dd"), `true 0`)
	check(system("X = a"), onlyEmpty, values("a"), `false 0`)
	check(system("X = "), onlyEmpty, values("", "b", "", "dd"), `true 0`) // values that are not empty, and not allowed, of unknowns that do not occur
	check(system("X = "), notEmpty, values("", "b", "", "dd"), `false 0`)
	check(system("XY = XY"), notEmpty, values("a", "b"), `true 0`) // Z and W are empty, which is not allowed, but do not occur
	check(system("XY = XY"), notEmpty, values("a", ""), `false 0`)
	check(system("X = X", "Y = Y", "Z = Z", "W = W"), parity(), values("aa", "a", "aaa", "b"), `true 0`)
	check(system("X = X", "Y = Y", "Z = Z", "W = W"), parity(), values("a", "a", "aaa", "b"), `false 0`)
	check(system(strings.Repeat("X", 24)+" = "+strings.Repeat("Y", 24)), parity(), values(sixty, sixty), `true 0`)
	check(system("X = Y"), parity(), values(sixty[1:], sixty[1:]), `false 0`)
	check(system("X = Y"), bounds(3, overMaps, "0123 0123 - -"), values("ab", "ab"), `true 0`)
	for _, bad := range noSystems() {
		check(bad, parity(), values(), `false 1`)
	}
	for _, bad := range badBounds() {
		check(system("X = "), bad, values(), `false 1`)
		check(system("a = b"), bad, values(), `false 1`)
		check(nil, bad, values(), `false 1`)
	}
	for _, bad := range noValues() {
		check(system("X = X"), parity(), bad, `false 1`)
		check(system("a = b"), parity(), bad, `false 1`)
		check(nil, none, bad, `false 1`)
	}
}

func TestCountWithinEdges(t *testing.T) {
	check := func(list []impl.Equation, b impl.Bounds, total int64, want string) {
		t.Helper()
		n, code := impl.CountWithin(list, b, total)
		same(t, fmt.Sprint("CountWithin ", list, b, total), want, n, code)
	}
	none, onlyEmpty, notEmpty := bounds(0, "0000", "- - - -"), bounds(0, "1111 1111", "0 0 0 0"), bounds(0, "1111 1111", "1 1 1 1")
	check(nil, none, 0, `1 0`)
	check(nil, everything(), 0, `1 0`)
	check(nil, everything(), 1, `0 0`)
	check(nil, everything(), 6, `0 0`)
	check(system("XYZW = XYZW"), everything(), 6, `344064 0`)
	check(system("X = X", "Y = Y", "Z = Z", "W = W"), none, 6, `0 0`)
	check(system("X = X"), everything(), 6, `4096 0`)
	check(system("X = X"), everything(), 0, `1 0`)
	check(system("X = X"), parity(), 6, `2080 0`)
	check(system("Y = Y"), parity(), 6, `4096 0`)
	check(system("X = X"), none, 0, `0 0`)
	check(system("Y = Y"), notEmpty, 0, `0 0`)
	check(system("Y = Y"), notEmpty, 1, `4 0`) // the others are empty, which is not allowed, but do not occur
	check(system("Y = Y"), onlyEmpty, 0, `1 0`)
	check(system("Y = Y"), onlyEmpty, 1, `0 0`)
	check(system("XYZW = XYZW"), notEmpty, 3, `0 0`)
	check(system("XYZW = XYZW"), notEmpty, 4, `256 0`)
	check(system("X = abcdab"), everything(), 6, `1 0`)
	check(system("X = Y", "Z = W"), everything(), 6, `256 0`)
	for _, total := range badSmallTotals {
		check(system("X = X"), everything(), total, `0 2`)
		check(nil, none, total, `0 2`)
		check([]impl.Equation{{Left: "e"}}, everything(), total, `0 1`)
		check(nil, impl.Bounds{}, total, `0 1`)
	}
	for _, bad := range noSystems() {
		check(bad, everything(), 1, `0 1`)
	}
	for _, bad := range badBounds() {
		check(system("X = a"), bad, 1, `0 1`)
	}
}

func TestLeastWithinEdges(t *testing.T) {
	check := func(list []impl.Equation, b impl.Bounds, total int64, want string) {
		t.Helper()
		v, code := impl.LeastWithin(list, b, total)
		same(t, fmt.Sprint("LeastWithin ", list, b, total), want, v, code)
	}
	none, onlyEmpty, notEmpty := bounds(0, "0000", "- - - -"), bounds(0, "1111 1111", "0 0 0 0"), bounds(0, "1111 1111", "1 1 1 1")
	check(nil, none, 0, `["" "" "" ""] 0`)
	check(nil, everything(), 6, `["" "" "" ""] 0`)
	check(system(" = "), notEmpty, 6, `["" "" "" ""] 0`)
	check(system("a = b"), everything(), 6, `[] 6`)
	check(system("X = X"), none, 6, `[] 6`)
	check(system("Y = Y"), notEmpty, 0, `[] 6`)
	check(system("Y = Y"), notEmpty, 1, `["" "a" "" ""] 0`)
	check(system("XYZW = XYZW"), notEmpty, 3, `[] 6`)
	check(system("XYZW = XYZW"), notEmpty, 4, `["a" "a" "a" "a"] 0`)
	check(system("XYZW = XYZW"), onlyEmpty, 6, `["" "" "" ""] 0`)
	check(system("X = abcdab"), everything(), 6, `["abcdab" "" "" ""] 0`)
	check(system("X = abcdab"), everything(), 5, `[] 6`)
	check(system("X = abcdabc"), everything(), 6, `[] 6`)
	check(system("XY = YX"), turning("3 2 0 0"), 6, `["aaa" "aa" "" ""] 0`)
	check(system("XY = YX"), turning("3 2 0 0"), 4, `[] 6`)
	check(system("XY = ab"), bounds(0, "0100 0100", "1 0 0 0"), 6, `["ab" "" "" ""] 0`)
	check(system("XZXZ = baba"), everything(), 2, `["" "" "ba" ""] 0`)
	check(system("XZXZ = baba"), notEmpty, 2, `["b" "" "a" ""] 0`)
	// The value "b" of X is shorter, but comes later.
	check(system("WcX = dcacb"), everything(), 6, `["acb" "" "" "d"] 0`)
	check(system("WcX = dcacb"), bounds(0, "1111 2222 2222", "1 1 1 012"), 6, `["b" "" "" "dca"] 0`)
	// The solution without X comes first, but has a greater sum; with one letter for X it is the least one.
	check(system("XXY = bb"), everything(), 6, `["b" "" "" ""] 0`)
	check(system("XXY = bb"), bounds(0, "1111 1111", "0 01 0 0"), 6, `["" "bb" "" ""] 0`)
	check(system("Xa = aX", "X = Y"), bounds(0, "1222 2222 2222", "1 1 0 0"), 6, `["a" "a" "" ""] 0`)
	check(system("X = Y"), turning("3 3 0 0"), 6, `["aaa" "aaa" "" ""] 0`)
	check(system("X = Y"), turning("3 2 0 0"), 6, `[] 6`)
	check(system("Z = Z"), bounds(3, overMaps, "- - 2 -"), 6, `["" "" "aa" ""] 0`)
	for _, total := range badSmallTotals {
		check(system("X = X"), everything(), total, `[] 2`)
		check(system("a = b"), none, total, `[] 2`)
		check([]impl.Equation{{Left: "e"}}, everything(), total, `[] 1`)
		check(nil, impl.Bounds{}, total, `[] 1`)
	}
	for _, bad := range noSystems() {
		check(bad, everything(), 1, `[] 1`)
	}
	for _, bad := range badBounds() {
		check(system("X = a"), bad, 1, `[] 1`)
	}
}

// checkApart compares the values that hold a system apart with those that are found by trying all values up to a sum of lengths.
func checkApart(t *testing.T, list, apart []impl.Equation, total int) {
	t.Helper()
	all := valuesUpTo(unknownsIn(slices.Concat(list, apart)), total)
	for _, v := range all {
		got, code := impl.HoldsApart(list, apart, v)
		if got != (solves(list, v) && differBy(apart, v)) || code != impl.OK {
			t.Fatalf("HoldsApart %q, %q, %q: got %v, %d", list, apart, v, got, code)
		}
	}
	all = slices.DeleteFunc(all, func(v []string) bool { return !solves(list, v) || !differBy(apart, v) })
	for n := range total + 1 {
		least, code := impl.LeastApart(list, apart, int64(n))
		same(t, fmt.Sprint("LeastApart ", list, apart, n), leastResult(all, n), least, code)
	}
}

func TestApart(t *testing.T) {
	aparts := [][]impl.Equation{nil, system("X = "), system("X = a"), system("X = Y"), system("XY = YX"), system("Xa = aX"), system("Z = "), system("X = ", "X = a", "X = b", "X = aa"), system("a = b"), system("X = X"), system("XY = a", "Y = "), system("Za = aZ", "Z = b")}
	for _, list := range withinSystems() {
		for _, apart := range aparts {
			total := 3
			if len(unknownsIn(slices.Concat(list, apart))) > 2 {
				total = 2
			}
			checkApart(t, list, apart, total)
		}
	}
}

func TestHoldsApartEdges(t *testing.T) {
	check := func(list, apart []impl.Equation, v []string, want string) {
		t.Helper()
		got, code := impl.HoldsApart(list, apart, v)
		same(t, fmt.Sprint("HoldsApart ", list, apart, v), want, got, code)
	}
	sixty := strings.Repeat("a", 60)
	check(nil, nil, values("a", "b"), `true 0`)
	check(system("a = b"), nil, values(), `false 0`)
	check(nil, system("a = b"), values(), `true 0`)
	check(nil, system("aX = aX"), values("b"), `false 0`)
	check(nil, system(" = "), values("b"), `false 0`)
	check(system("X = Y"), system("X = Z", "Y = W"), values("a", "a", "b", ""), `true 0`)
	check(system("X = Y"), system("X = Z", "Y = W"), values("a", "a", "b", "a"), `false 0`)
	check(system("X = Y"), system("X = Z", "Y = W"), values("a", "b", "b", "a"), `false 0`)
	check(system("X = Y"), system("X = ZZ"), values(sixty, sixty, sixty[:30]), `false 0`)
	check(system("X = Y"), system(strings.Repeat("X", 24)+" = "+strings.Repeat("Y", 23)+"Z"), values(sixty, sixty, sixty[1:]+"b"), `true 0`)
	check(system("X = Y"), system(strings.Repeat("X", 24)+" = "+strings.Repeat("Y", 24)), values(sixty, sixty), `false 0`)
	for _, bad := range noSystems() {
		check(bad, nil, values(), `false 1`)
		check(nil, bad, values(), `false 1`)
		check(system("a = b"), bad, values(), `false 1`)
	}
	for _, bad := range noValues() {
		check(nil, nil, bad, `false 1`)
		check(system("a = b"), system("a = a"), bad, `false 1`)
	}
}

func TestLeastApartEdges(t *testing.T) {
	check := func(list, apart []impl.Equation, total int64, want string) {
		t.Helper()
		v, code := impl.LeastApart(list, apart, total)
		same(t, fmt.Sprint("LeastApart ", list, apart, total), want, v, code)
	}
	check(nil, nil, 0, `["" "" "" ""] 0`)
	check(nil, nil, 6, `["" "" "" ""] 0`)
	check(system("Xa = aX"), nil, 6, `["" "" "" ""] 0`)
	check(system("a = b"), nil, 6, `[] 6`)
	check(nil, system("a = b"), 6, `["" "" "" ""] 0`)
	check(nil, system("a = a"), 6, `[] 6`)
	check(nil, system("XYZW = XYZW"), 6, `[] 6`)
	check(nil, system("X = Xa", "Z = bZ", "Y = Yc", "WaW = WaW"), 6, `[] 6`)
	check(nil, system("Z = "), 0, `[] 6`)
	check(nil, system("Z = "), 1, `["" "" "a" ""] 0`)
	check(nil, system("Z = ", "Z = a", "Z = b", "Z = c"), 1, `["" "" "d" ""] 0`)
	check(nil, system("Za = aZ", "Z = b", "Z = c", "Z = d"), 6, `["" "" "ab" ""] 0`)
	check(nil, system("XY = YX", "X = Z", "Y = W", "XYZW = WZYX"), 6, `["a" "b" "" ""] 0`)
	check(system("X = Y"), system("X = Z", "Z = ", "Y = W", "W = "), 6, `["" "" "a" "a"] 0`)
	check(system("X = Y"), system("X = Z", "Z = ", "Y = W", "X = "), 6, `["a" "a" "b" ""] 0`)
	check(system("X = abcdab"), system("X = abcdaa"), 6, `["abcdab" "" "" ""] 0`)
	check(system("X = abcdab"), system("X = abcdab"), 6, `[] 6`)
	check(system("X = abcdab"), nil, 5, `[] 6`)
	check(system("Xa = aX"), system("X = ", "X = a", "X = aa", "X = aaa"), 6, `["aaaa" "" "" ""] 0`)
	check(system("Xa = aX"), system("X = ", "X = a", "X = aa", "X = aaa"), 3, `[] 6`)
	check(system("Xa = aX", "Yb = bY", "Z = XY", "W = YX"), system("Z = W"), 6, `["a" "b" "ab" "ba"] 0`)
	// Of values with the sum 2, those without X come first.
	check(nil, system("XY = ", "XY = a", "XY = b", "XXYY = cc"), 6, `["" "d" "" ""] 0`)
	check(nil, system("XXYY = ", "XXYY = aa", "XYYX = bb", "XXY = c"), 1, `["" "d" "" ""] 0`)
	for _, total := range badSmallTotals {
		check(nil, nil, total, `[] 2`)
		check(system("a = b"), system("a = a"), total, `[] 2`)
		check([]impl.Equation{{Left: "e"}}, nil, total, `[] 1`)
		check(nil, []impl.Equation{{Left: "e"}}, total, `[] 1`)
	}
	for _, bad := range noSystems() {
		check(bad, nil, 1, `[] 1`)
		check(nil, bad, 1, `[] 1`)
		check(bad, bad, -1, `[] 1`)
	}
}
