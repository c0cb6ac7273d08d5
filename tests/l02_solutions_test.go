package tests

import (
	"fmt"
	"slices"
	"strings"
	"testing"

	"loop.example/g01143/impl"
)

// checkSolutions compares solutions with lengths up to a sum with those that are found by trying all values.
func checkSolutions(t *testing.T, list []impl.Equation, total int) {
	t.Helper()
	all := slices.DeleteFunc(valuesUpTo(unknownsIn(list), total), func(v []string) bool { return !solves(list, v) })
	counts := make([]int64, total+1)
	byLengths := map[string][][]string{}
	for _, v := range all {
		counts[sumOf(lengthsOf(v))]++
		key := fmt.Sprint(lengthsOf(v))
		byLengths[key] = append(byLengths[key], v)
	}
	for n, want := range counts {
		got, code := impl.CountSolutions(list, int64(n))
		if got != want || code != impl.OK {
			t.Fatalf("CountSolutions %q, %d: got %d, %d, want %d", list, n, got, code, want)
		}
		checkLeast(t, list, int64(n), all)
	}
	lists, _ := impl.LengthLists(list, int64(total))
	for key := range byLengths {
		if !slices.ContainsFunc(lists, func(lengths []int64) bool { return fmt.Sprint(lengths) == key }) {
			t.Fatalf("LengthLists %q, %d lacks %s", list, total, key)
		}
	}
	for _, v := range valuesUpTo(unknownsIn(list), total) {
		lengths := lengthsOf(v)
		checkLengths(t, list, lengths, byLengths[fmt.Sprint(lengths)])
	}
}

// checkLeast compares the least solution with the first one, in the order of values, of those with the least sum.
func checkLeast(t *testing.T, list []impl.Equation, total int64, all [][]string) {
	t.Helper()
	var want []string
	for _, v := range all {
		sum := sumOf(lengthsOf(v))
		if sum <= total && (want == nil || sum < sumOf(lengthsOf(want))) {
			want = v
		}
	}
	got, code := impl.LeastSolution(list, total)
	if !slices.Equal(got, want) || (code == impl.OK) != (want != nil) || want == nil && code != impl.ErrNotFound {
		t.Fatalf("LeastSolution %q, %d: got %q, %d, want %q", list, total, got, code, want)
	}
}

// checkLengths compares solutions with given lengths with all of them, in the order of values.
func checkLengths(t *testing.T, list []impl.Equation, lengths []int64, all [][]string) {
	t.Helper()
	v, free, code := impl.SolveLengths(list, lengths)
	if len(all) == 0 {
		if len(v) != 0 || free != 0 || code != impl.ErrNotFound {
			t.Fatalf("SolveLengths %q, %v: got %q, %d, %d", list, lengths, v, free, code)
		}
		return
	}
	if code != impl.OK || !slices.Equal(v, all[0]) || 1<<(2*free) != len(all) {
		t.Fatalf("SolveLengths %q, %v: got %q, %d, %d, want %q, and %d in all", list, lengths, v, free, code, all[0], len(all))
	}
}

func TestAllSolutions(t *testing.T) {
	for _, e := range equations(textsUpTo("abXY", 2)) {
		checkSolutions(t, []impl.Equation{e}, 2)
	}
	for _, text := range []string{"XY = YX", "XaY = YaX", "Xab = baX", "aXbY = Yab", "XXY = YYX", "XYa = YbX", "YX = abc", "dYX = Xd", "WXc = cXW"} {
		checkSolutions(t, system(text), 4)
	}
	checkSolutions(t, system("ZX = YW"), 3)
	checkSolutions(t, system("WZ = YX", "X = Wa"), 3)
	checkSolutions(t, system("XY = YX", "YZ = ZY", "ZX = aY"), 3)
	checkSolutions(t, system("Xa = aX", "Yb = bY", "XY = Z", "W = W"), 3)
	checkSolutions(t, system("Xa = aX", "Xb = bX"), 4)
	checkSolutions(t, system("X = a", "X = b"), 4)
	checkSolutions(t, nil, 2)
	checkSolutions(t, system(" = ", " = "), 2)
}

func TestSolveLengthsEdges(t *testing.T) {
	check := func(list []impl.Equation, want string, lengths ...int64) {
		t.Helper()
		v, free, code := impl.SolveLengths(list, lengths)
		same(t, impl.SystemText(list), want, v, free, code)
	}
	twelve := strings.Repeat("a", 12)
	check(nil, `["" "" "" ""] 0 0`, 0, 0, 0, 0)
	check(nil, `["a" "aa" "" "aaa"] 6 0`, 1, 2, 0, 3)
	check(system(" = "), `["`+twelve+`" "`+twelve+`" "`+twelve+`" "`+twelve+`"] 48 0`, 12, 12, 12, 12)
	check(system("X = bc"), `["bc" "" "aa" "a"] 3 0`, 2, 0, 2, 1)
	check(system("X = bc"), `[] 0 6`, 1, 1, 0, 0)
	check(system("a = b"), `[] 0 6`, 0, 0, 0, 0)
	check(system("X = Y"), `["aaa" "aaa" "" ""] 3 0`, 3, 3, 0, 0)
	check(system("Xc = cX"), `["ccc" "" "" ""] 0 0`, 3, 0, 0, 0)
	check(system("XYd = dYX"), `["d" "a" "" ""] 1 0`, 1, 1, 0, 0)
	check(system("XY = YX"), `["aaaa" "aaaaaa" "" ""] 2 0`, 4, 6, 0, 0)
	check(system("XcY = YcX"), `["acaca" "a" "" ""] 1 0`, 5, 1, 0, 0)
	check(system("XcY = YcX"), `["aa" "aacaa" "" ""] 2 0`, 2, 5, 0, 0)
	check(system("XcY = YdX"), `[] 0 6`, 2, 5, 0, 0)
	check(system(strings.Repeat("X", 24)+" = "+strings.Repeat("Y", 24)), `["`+twelve+`" "`+twelve+`" "" ""] 12 0`, 12, 12, 0, 0)
	check(system("X = bcdb", "X = Yb", "W = Z", "ZW = XX"), `["bcdb" "bcd" "bcdb" "bcdb"] 0 0`, 4, 3, 4, 4)
	bad := [][]int64{nil, {0, 0, 0}, {0, 0, 0, 0, 0}, {13, 0, 0, 0}, {0, 0, 0, 13}, {0, -1, 0, 0}, {-1 << 63, 0, 0, 0}, {0, 0, 1<<63 - 1, 0}, make([]int64, 1000000)}
	for _, lengths := range bad {
		check(system("a = b"), `[] 0 2`, lengths...)
		check(nil, `[] 0 2`, lengths...)
		check([]impl.Equation{{Left: "e"}}, `[] 0 1`, lengths...)
	}
	for _, list := range noSystems() {
		check(list, `[] 0 1`, 0, 0, 0, 0)
	}
}

func TestCountSolutionsEdges(t *testing.T) {
	check := func(list []impl.Equation, total int64, want string) {
		t.Helper()
		n, code := impl.CountSolutions(list, total)
		same(t, fmt.Sprint(list, total), want, n, code)
	}
	check(nil, 0, `1 0`)
	check(nil, 1, `0 0`)
	check(nil, 12, `0 0`)
	check(system("a = b"), 0, `0 0`)
	check(system("X = X"), 0, `1 0`)
	check(system("Z = Z"), 3, `64 0`)
	check(system("X = X"), 10, `1048576 0`)
	check(system("X = X"), 11, `0 3`)
	check(system("X = X"), 12, `0 3`)
	check(system("YW = YW"), 10, `11534336 0`)
	check(system("XYZW = XYZW"), 10, `299892736 0`)
	check(system("XY = YX"), 10, `2098256 0`)
	check(system("XY = YX"), 11, `0 3`) // just for the lengths 0, 11 and 11, 0
	check(system("XY = XZ"), 12, `0 3`) // not yet for the lengths 0, 6 and 6
	check(system("X = Y"), 12, `4096 0`)
	check(system("X = Y"), 11, `0 0`)
	check(system("Xa = bX"), 12, `0 0`)
	check(system("Xc = cX"), 12, `1 0`)
	check(system("YXX = YXX", "X = abcd"), 12, `65536 0`)
	check(system("ZX = "), 0, `1 0`)
	for _, total := range badTotals {
		check(system("X = X"), total, `0 2`)
		check([]impl.Equation{{Left: "e"}}, total, `0 1`)
	}
	for _, bad := range noSystems() {
		check(bad, 1, `0 1`)
	}
}

func TestLeastSolutionEdges(t *testing.T) {
	check := func(list []impl.Equation, total int64, want string) {
		t.Helper()
		v, code := impl.LeastSolution(list, total)
		same(t, fmt.Sprint(list, total), want, v, code)
	}
	check(nil, 0, `["" "" "" ""] 0`)
	check(nil, 12, `["" "" "" ""] 0`)
	check(system("a = b"), 12, `[] 6`)
	check(system("XYZW = XYZW"), 12, `["" "" "" ""] 0`)
	check(system("X = abcdabcdabcd"), 12, `["abcdabcdabcd" "" "" ""] 0`)
	check(system("X = abcdabcdabcd"), 11, `[] 6`)
	check(system("X = abcdabcdabcda"), 12, `[] 6`)
	check(system("XY = a"), 12, `["" "a" "" ""] 0`)
	check(system("XZXZ = baba"), 2, `["" "" "ba" ""] 0`)
	check(system("XZXZ = baba"), 1, `[] 6`)
	// The value "b" of X is shorter, but comes later.
	check(system("WcX = dcacb"), 12, `["acb" "" "" "d"] 0`)
	// The solution without X comes first, but has a greater sum.
	check(system("XXY = bb"), 12, `["b" "" "" ""] 0`)
	check(system("Xab = baX"), 1, `["b" "" "" ""] 0`)
	check(system("Xab = baX"), 0, `[] 6`)
	check(system("W = X", "XW = cc"), 12, `["c" "" "" "c"] 0`)
	for _, total := range badTotals {
		check(system("X = X"), total, `[] 2`)
		check(system("a = b"), total, `[] 2`)
		check([]impl.Equation{{Left: "e"}}, total, `[] 1`)
	}
	for _, bad := range noSystems() {
		check(bad, 1, `[] 1`)
	}
}
