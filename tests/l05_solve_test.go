package tests

import (
	"fmt"
	"slices"
	"strings"
	"testing"

	"loop.example/g01143/impl"
)

// quadraticEquations are small equations in which no unknown occurs more than twice, also such that are not stripped.
func quadraticEquations() []impl.Equation {
	list := append(equations(textsUpTo("abXY", 2)), system(
		"Xab = baX", "XaY = YaX", "XaY = YbX", "XaXb = bYaY", "XX = YY", "XX = aYa", "X = YaY", "aXb = aYb", "XYa = XYb", "bXac = baXc", "XaX = YY", "XYb = aYX", "XbaX = YY", "XabY = YbaX", "XYa = aYX", "abX = Yba", "aYX = XYa",
	)...)
	return slices.DeleteFunc(list, func(e impl.Equation) bool { return !isQuadraticByHand(e) })
}

// isQuadraticByHand reports whether no unknown occurs more than twice.
func isQuadraticByHand(e impl.Equation) bool {
	for _, x := range signs[4:] {
		if strings.Count(e.Left+e.Right, string(x)) > 2 {
			return false
		}
	}
	return true
}

// checkSolved compares what is told of an equation within bounds with its nodes, found by hand, of which there are at most so many.
func checkSolved(t *testing.T, e impl.Equation, b impl.Bounds, most int) {
	t.Helper()
	name := fmt.Sprintf("%s = %s within %v", e.Left, e.Right, b)
	g, ok := heldGraphOf(e, b, most)
	yes, code := impl.IsSolvableWithin(e, b)
	v, valuesCode := impl.SolutionWithin(e, b)
	nodes, nodesCode := impl.HeldNodes(e, b)
	switch {
	case !ok:
		same(t, name, `false 3 [] 3 [] 3`, yes, code, v, valuesCode, nodes, nodesCode)
		return
	case g.solved < 0:
		same(t, name, `false 0 [] 6 0`, yes, code, v, valuesCode, nodesCode)
		sameHeld(t, name, nodes, g.nodes)
	default:
		same(t, name, fmt.Sprintf(`true 0 %q 0 [] 4`, g.solution(e, b)), yes, code, v, valuesCode, nodes, nodesCode)
		if !holdsBy([]impl.Equation{e}, b, v) {
			t.Errorf("%s: %q is no solution", name, v)
		}
	}
	shown, code := impl.CheckHeld(e, b, g.nodes)
	same(t, "CheckHeld of "+name, fmt.Sprint(g.solved < 0, " 0"), shown, code)
}

func TestSolvableWithin(t *testing.T) {
	for _, b := range fewBounds() {
		large := len(firstWordsOf(b)) > 6
		for i, e := range quadraticEquations() {
			if !large || i%40 == 7 {
				checkSolved(t, e, b, 600)
			}
		}
	}
}

// TestSolvableWithinMore has equations with other unknowns, and with more of them.
func TestSolvableWithinMore(t *testing.T) {
	list := system("ZWd = dWZ", "Z = XY", "XZ = ZY", "WX = YaW", "ZaW = WbZ", "XYZ = ZYX", "ZXY = ZYX", "WaX = Zb", "XaYZ = XaYZ", "ZXY = ZYa", "WaZ = YaZ", "XYZW = XYZW", "XX = YYZZ", "XZ = YW", "cXdZ = ZdXc", "XWaY = YbWX", "WaYX = WXbY")
	for _, b := range fewBounds() {
		for _, e := range list {
			if len(firstWordsOf(b)) <= 3 {
				checkSolved(t, e, b, 600)
			}
		}
	}
}

// TestSolvableBySearch compares the verdicts with a search among short values.
func TestSolvableBySearch(t *testing.T) {
	small := map[string][][]string{}
	for _, b := range fewBounds() {
		for _, e := range append(quadraticEquations(), system("ZWd = dWZ", "Z = XY", "XZ = ZY", "WX = YaW", "ZaW = WbZ", "WaX = Zb", "WaZ = YaZ")...) {
			list := []impl.Equation{e}
			unknowns := unknownsIn(list)
			if small[unknowns] == nil {
				small[unknowns] = valuesUpTo(unknowns, 3)
			}
			yes, code := impl.IsSolvableWithin(e, b)
			if code != impl.OK {
				continue
			}
			found := slices.IndexFunc(small[unknowns], func(v []string) bool { return holdsBy(list, b, v) })
			least, leastCode := impl.LeastWithin(list, b, 6)
			if !yes && (found >= 0 || leastCode != impl.ErrNotFound) {
				t.Fatalf("%q within %v has the solution %q, %d", e, b, least, found)
			}
			v, valuesCode := impl.SolutionWithin(e, b)
			if yes && (valuesCode != impl.OK || !holdsBy(list, b, v)) {
				t.Fatalf("%q within %v: %q, %d is no solution", e, b, v, valuesCode)
			}
			nodes, nodesCode := impl.HeldNodes(e, b)
			if shown, code := impl.CheckHeld(e, b, nodes); !yes && (nodesCode != impl.OK || !shown || code != impl.OK) {
				t.Fatalf("%q within %v: the nodes %v, %d, show %v, %d", e, b, nodes, nodesCode, shown, code)
			}
		}
	}
}

func TestSolutionWithinCases(t *testing.T) {
	onlyEmpty, notEmpty, endsB := bounds(0, "1111 1111", "0 0 0 0"), bounds(0, "1111 1111", "1 1 1 1"), bounds(0, "0100 0100", "1 01 0 -")
	cases := []struct {
		equation string
		bounds   impl.Bounds
		want     string
	}{
		{" = ", onlyEmpty, `["" "" "" ""] 0`}, {" = ", notEmpty, `["" "" "" ""] 0`}, {" = ", bounds(0, "0000", "- - - -"), `["" "" "" ""] 0`}, {"a = a", bounds(0, "0000", "- - - -"), `["" "" "" ""] 0`},
		{"a = b", parity(), `[] 6`}, {"a = ", parity(), `[] 6`},
		// Unknowns that vanish at once have the first allowed word, if there is one.
		{"X = X", parity(), `["" "" "" ""] 0`}, {"X = X", notEmpty, `["a" "" "" ""] 0`}, {"XYZ = XYZ", endsB, `["b" "" "" ""] 0`}, {"X = X", turning("3 2 1 0"), `["aaa" "" "" ""] 0`}, {"WaY = WaY", turning("3 2 1 0"), `["" "aa" "" ""] 0`},
		{"W = W", endsB, `[] 6`}, {"XW = XW", endsB, `[] 6`}, {"Wa = Wa", bounds(0, "1000 0111 2222", "0 0 0 2"), `[] 6`}, {"ZX = ZX", bounds(0, "1000 0111 2222", "0 0 2 2"), `[] 6`},
		{"aXYb = aXZb", notEmpty, `["a" "a" "a" ""] 0`}, {"XaY = XaY", onlyEmpty, `["" "" "" ""] 0`}, {"XYa = XYb", everything(), `[] 6`},
		// Unknowns that vanish later, by a step of another one.
		{"XY = YX", notEmpty, `["a" "a" "" ""] 0`}, {"XY = YX", turning("3 2 1 0"), `["aaa" "aaaaaa" "" ""] 0`}, {"YX = XY", turning("3 3 1 0"), `["aaa" "aaa" "" ""] 0`}, {"XZ = YZ", turning("3 3 1 0"), `["aaa" "aaa" "a" ""] 0`},
		{"XZ = YZ", turning("3 2 1 0"), `[] 6`}, {"aXZ = YZ", turning("2 3 1 0"), `["aa" "aaa" "a" ""] 0`}, {"XZb = aZb", turning("1 2 3 0"), `["a" "" "aaa" ""] 0`}, {"ZW = WZ", bounds(0, "1222 2122 2222", "0 0 12 1"), `["" "" "a" "a"] 0`},
		// Unknowns that never vanish but by a step that replaces them.
		{"X = aa", parity(), `["aa" "" "" ""] 0`}, {"X = a", parity(), `[] 6`}, {"Xa = aX", turning("3 2 1 0"), `["aaa" "" "" ""] 0`}, {"X = ", notEmpty, `[] 6`}, {" = XY", onlyEmpty, `["" "" "" ""] 0`}, {"X = Y", onlyEmpty, `["" "" "" ""] 0`}, {"X = Y", notEmpty, `["a" "a" "" ""] 0`},
		{"X = YZ", turning("3 2 1 0"), `["aaa" "aa" "a" ""] 0`}, {"X = YZ", turning("0 2 1 0"), `[] 6`}, {"X = aYb", parity(), `["aab" "a" "" ""] 0`}, {"Xb = bX", turning("3 2 1 0"), `[] 6`}, {"XaY = YbX", everything(), `[] 6`},
	}
	for _, c := range cases {
		v, code := impl.SolutionWithin(equation(c.equation), c.bounds)
		same(t, fmt.Sprint("SolutionWithin ", c.equation, c.bounds), c.want, v, code)
		checkSolved(t, equation(c.equation), c.bounds, 600)
	}
}

// TestSolutionWithinLimits has solutions of just MaxWord letters and of more, at the ends of ways that are as long.
func TestSolutionWithinLimits(t *testing.T) {
	check := func(text string, b impl.Bounds, want string) {
		t.Helper()
		v, code := impl.SolutionWithin(equation(text), b)
		same(t, text, want, v, code)
		yes, code := impl.IsSolvableWithin(equation(text), b)
		same(t, text, `true 0`, yes, code)
		nodes, code := impl.HeldNodes(equation(text), b)
		same(t, text, `[] 4`, nodes, code)
	}
	// X is a power of the root of these letters, with as many "a" as the bounds ask for, and perhaps a tail.
	ab := func(count int) string { return "a" + strings.Repeat("b", count-1) }
	check("X"+ab(20)+" = "+ab(20)+"X", turning("3 0 0 0"), fmt.Sprintf(`[%q "" "" ""] 0`, strings.Repeat(ab(20), 3)))
	check("X"+ab(21)+" = "+ab(21)+"X", turning("3 0 0 0"), `[] 3`)
	check("X"+ab(21)+" = "+ab(21)+"X", turning("2 0 0 0"), fmt.Sprintf(`[%q "" "" ""] 0`, strings.Repeat(ab(21), 2)))
	check("X"+ab(20)+" = b"+ab(19)+"X", turning("3 0 0 0"), `[] 3`)
	check("X"+ab(20)+" = b"+ab(19)+"X", turning("2 0 0 0"), fmt.Sprintf(`[%q "" "" ""] 0`, strings.Repeat("b"+ab(19), 2)+"b"))
	// The long value is that of the last unknown.
	check("W"+ab(20)+" = "+ab(20)+"W", turning("0 0 0 3"), fmt.Sprintf(`["" "" "" %q] 0`, strings.Repeat(ab(20), 3)))
	check("W"+ab(21)+" = "+ab(21)+"W", turning("0 0 0 3"), `[] 3`)
}

// Equations and bounds with just MaxHeld nodes, and with one more, with a solution and without one.
var (
	fullSolvableWithin  = bounds(1, "0011 1012 1221", "12 12 12 1")
	fullRefusedWithin   = bounds(1, "0220 1201 0021", "012 12 02 2")
	overSolvableWithin  = bounds(2, "0021 0210 1222", "012 2 1 -")
	overRefusedWithin   = bounds(1, "1221 0011 0221", "01 2 01 -")
	heldLimitsEquations = []string{"XYa = aYX", "XaY = YbX", "XYb = bYX", "XaXb = YY"}
)

func TestHeldLimits(t *testing.T) {
	for i, b := range []impl.Bounds{fullSolvableWithin, fullRefusedWithin, overSolvableWithin, overRefusedWithin} {
		e := equation(heldLimitsEquations[i])
		g, _ := heldGraphOf(e, b, 1000)
		if want := 600 + i/2; len(g.nodes) != want || (g.solved >= 0) != (i%2 == 0) {
			t.Errorf("%q within %v has %d nodes, of which %d is solved", e, b, len(g.nodes), g.solved)
		}
		if g.solved > 500 {
			t.Errorf("%q within %v is solved late, by %d", e, b, g.solved)
		}
		checkSolved(t, e, b, 600)
	}
}

// TestHeldLimitErrors looks at limits other than that of nodes, and at the order of errors.
func TestHeldLimitErrors(t *testing.T) {
	check := func(name string, e impl.Equation, b impl.Bounds, want int64) {
		t.Helper()
		yes, code := impl.IsSolvableWithin(e, b)
		same(t, "IsSolvableWithin: "+name, fmt.Sprint("false ", want), yes, code)
		v, code := impl.SolutionWithin(e, b)
		same(t, "SolutionWithin: "+name, fmt.Sprint("[] ", want), v, code)
		nodes, code := impl.HeldNodes(e, b)
		same(t, "HeldNodes: "+name, fmt.Sprint("[] ", want), nodes, code)
	}
	over := bounds(3, overMaps, "0123 0123 0123 0123")
	long, cubic := impl.Equation{Left: "X" + strings.Repeat("a", 22) + "X", Right: "b"}, equation("XXX = a")
	for _, e := range append(noEquations(), impl.Equation{Left: "XXXe"}) {
		check("no equation", e, parity(), impl.ErrInvalid)
		check("no equation, and more than MaxMaps maps", e, over, impl.ErrInvalid)
	}
	for _, b := range badBounds() {
		check("bad bounds", equation("X = a"), b, impl.ErrInvalid)
		check("bad bounds, and not quadratic", cubic, b, impl.ErrInvalid)
	}
	for _, e := range append(system("XXX = a", "XX = X", "X = XX", "ZZZ = ", "XYX = aYXY", "WWW = WWW", "aXXX = bX"), tooLongSolvable) {
		check("not quadratic", e, parity(), impl.ErrState)
		check("not quadratic, and more than MaxMaps maps", e, over, impl.ErrState)
		check("not quadratic, and no starts", e, bounds(0, "0000", "- - - -"), impl.ErrState)
	}
	for _, e := range append(system("X = a", " = ", "a = b", "X = X"), long) {
		check("more than MaxMaps maps", e, over, impl.ErrLimit)
		check("more than MaxMaps maps, and no starts", e, bounds(3, overMaps, "- - - -"), impl.ErrLimit)
	}
	check("too many starts", equation("XY = aZb"), overStarts, impl.ErrLimit)
	check("very many starts", equation("XYZW = a"), bounds(3, fullMaps, "0123 0123 0123 0123"), impl.ErrLimit)
	check("a step that cannot be applied", long, parity(), impl.ErrLimit)
	check("a step that cannot be applied, and fits no map", impl.Equation{Left: long.Left, Right: "b"}, bounds(0, "1111 1111", "0 0 0 0"), impl.ErrLimit)
	// The steps of the first node can be applied, but not those of a node behind it, if this is met.
	behind := impl.Equation{Left: "X", Right: "cY" + strings.Repeat("a", 21) + "Y"}
	check("a step of a later node that cannot be applied", behind, parity(), impl.ErrLimit)
	checkSolved(t, behind, bounds(0, "1111 1111", "0 01 01 01"), 600)
	// Without starts there is no step at all.
	none := bounds(0, "1000 0111", "- 01 01 01")
	for _, e := range append(system("aXb = aXb", "X = X"), long, behind) {
		checkSolved(t, e, none, 600)
		yes, code := impl.IsSolvableWithin(e, none)
		same(t, "no starts", `false 0`, yes, code)
	}
}

// refusedWithin are equations without solutions within bounds.
func refusedWithin() ([]impl.Equation, []impl.Bounds) {
	list := system("X = a", "XaY = YbX", "XZ = YZ", "XaX = YY", "Xa = bX", "X = X", "a = b", "XYb = YXb", "X = aY")
	return list, []impl.Bounds{parity(), everything(), turning("3 2 1 0"), bounds(0, "1111 1111", "0 01 0 0"), parity(), bounds(0, "0000", "- 0 0 0"), parity(), bounds(0, "1333 3233 1333 3333", "2 1 0 0"), turning("1 1 0 0")}
}

func TestCheckHeld(t *testing.T) {
	list, all := refusedWithin()
	for i, e := range list {
		b := all[i]
		check := func(name string, nodes []impl.Held, want string) {
			t.Helper()
			yes, code := impl.CheckHeld(e, b, nodes)
			same(t, fmt.Sprintf("%s of %q within %v: %v", name, e, b, nodes), want, yes, code)
		}
		nodes, code := impl.HeldNodes(e, b)
		if code != impl.OK {
			t.Fatalf("%q within %v: got %d", e, b, code)
		}
		check("the nodes", nodes, `true 0`)
		back := slices.Clone(nodes)
		slices.Reverse(back)
		check("the nodes in another order", back, `true 0`)
		check("each node twice", slices.Concat(nodes, back), `true 0`)
		for k := range nodes {
			check("one node too few", slices.Delete(slices.Clone(nodes), k, k+1), `false 0`)
			check("one node twice", append([]impl.Held{nodes[k]}, nodes...), `true 0`)
		}
		check("no nodes", nil, fmt.Sprint(len(nodes) == 0, " 0"))
		check("one with empty terms", append(slices.Clone(nodes), held(" = ", -1, -1, -1, -1)), `false 0`)
		check("one with empty terms in front", append([]impl.Held{held(" = ", -1, -1, -1, -1)}, nodes...), `false 0`)
		check("one with no steps", append(slices.Clone(nodes), held("aX = bY", 0, 0, -1, -1)), `true 0`)
		check("one of which a next one is missing", append(slices.Clone(nodes), held("Wa = dcX", 0, -1, -1, 0)), `false 0`)
	}
}

// TestCheckHeldOthers has lists for equations with solutions, and for such that are not quadratic.
func TestCheckHeldOthers(t *testing.T) {
	cases := []struct {
		equation string
		bounds   impl.Bounds
		nodes    []impl.Held
		want     string
	}{
		{" = ", parity(), nil, `false 0`},
		{" = ", parity(), []impl.Held{held(" = ", -1, -1, -1, -1)}, `false 0`},
		{"X = ", parity(), []impl.Held{held("X = ", 0, -1, -1, -1)}, `false 0`},
		{"X = ", parity(), []impl.Held{held("X = ", 0, -1, -1, -1), held(" = ", -1, -1, -1, -1)}, `false 0`},
		{"X = ", turning("1 0 0 0"), []impl.Held{held("X = ", 1, -1, -1, -1)}, `true 0`},
		{"X = ", turning("1 0 0 0"), []impl.Held{held("X = ", 2, -1, -1, -1)}, `false 0`},
		{"X = ", turning("1 0 0 0"), []impl.Held{held("X = ", 2, -1, -1, -1), held("X = ", 1, -1, -1, -1)}, `true 0`},
		{"aXb = b", turning("1 0 0 0"), []impl.Held{held("aX = ", 1, -1, -1, -1)}, `true 0`},
		{"XXX = ", turning("1 0 0 0"), []impl.Held{held("XXX = ", 1, -1, -1, -1)}, `true 0`},
		{"XXX = b", turning("1 0 0 0"), []impl.Held{held("XXX = b", 1, -1, -1, -1)}, `false 0`},
		{"XXX = b", turning("1 0 0 0"), []impl.Held{held("XXX = b", 1, -1, -1, -1), held("XbXbX = ", 1, -1, -1, -1)}, `true 0`},
		{"YYY = YYYX", bounds(0, "0000", "0 - 0 0"), nil, `true 0`},
		{"YYY = YYYX", bounds(0, "0000", "- 0 0 0"), nil, `true 0`},
		{"YYY = YYYX", turning("1 0 0 0"), []impl.Held{held(" = X", 1, -1, -1, -1)}, `true 0`},
		{"a = b", parity(), nil, `false 0`},
		{"a = b", parity(), []impl.Held{held("a = b", -1, -1, -1, -1)}, `true 0`},
		{"a = b", parity(), []impl.Held{held("b = a", -1, -1, -1, -1)}, `false 0`},
	}
	for _, c := range cases {
		yes, code := impl.CheckHeld(equation(c.equation), c.bounds, c.nodes)
		same(t, fmt.Sprint(c.equation, c.bounds, c.nodes), c.want, yes, code)
	}
}

func TestCheckHeldErrors(t *testing.T) {
	e, over := equation("X = a"), bounds(3, overMaps, "- - - -")
	nodes, _ := impl.HeldNodes(e, parity())
	check := func(name string, e impl.Equation, b impl.Bounds, list []impl.Held, want string) {
		t.Helper()
		yes, code := impl.CheckHeld(e, b, list)
		same(t, name, want, yes, code)
	}
	fill := func(count int, more ...impl.Held) []impl.Held {
		return append(slices.Repeat([]impl.Held{nodes[1]}, count-len(nodes)-len(more)), slices.Concat(nodes, more)...)
	}
	noMap := held("X = b", 39, -1, -1, -1)
	check("just MaxHeld", e, parity(), fill(600), `true 0`)
	check("one more", e, parity(), fill(601), `false 3`)
	check("one more, with a number of no map", e, parity(), fill(601, noMap), `false 3`)
	check("just MaxHeld, with a number of no map", e, parity(), fill(600, noMap), `false 2`)
	check("very many", e, parity(), make([]impl.Held, 100000), `false 1`)
	check("very many valid ones", e, parity(), fill(100000), `false 3`)
	check("too many starts", equation("XY = aZb"), overStarts, nil, `false 3`)
	check("too many starts, and a number of no map", equation("XY = aZb"), overStarts, []impl.Held{noMap}, `false 3`)
	check("more than MaxMaps maps", e, over, nil, `false 3`)
	check("more than MaxMaps maps, for a number of no map", e, over, []impl.Held{noMap}, `false 3`)
	check("a number of no map", e, parity(), []impl.Held{noMap}, `false 2`)
	check("a number of no map behind one with empty terms", e, parity(), []impl.Held{held(" = ", -1, -1, -1, -1), noMap}, `false 2`)
	for _, h := range longHeld() {
		check("a step that cannot be applied", e, parity(), []impl.Held{h}, `false 3`)
		check("a step that cannot be applied, behind the nodes", e, parity(), append(slices.Clone(nodes), h), `false 3`)
		check("a step that cannot be applied, ahead of a number of no map", e, parity(), []impl.Held{h, noMap}, `false 2`)
		check("a step that cannot be applied, behind one with empty terms", e, parity(), []impl.Held{held(" = ", -1, -1, -1, -1), h}, `false 3`)
		check("a step of the equation that cannot be applied", h.Equation, parity(), nil, `false 0`)
	}
	for _, h := range badHeld() {
		check("bad held equation", e, parity(), append(slices.Clone(nodes), h), `false 1`)
		check("bad held equation, and more than MaxMaps maps", e, over, []impl.Held{h}, `false 1`)
		check("bad held equation, and too many", e, parity(), append(fill(601), h), `false 1`)
	}
	for _, bad := range append(noEquations(), impl.Equation{Left: "XXXe"}) {
		check("no equation", bad, parity(), nodes, `false 1`)
		check("no equation, too many", bad, over, fill(601), `false 1`)
	}
	for _, bad := range badBounds() {
		check("bad bounds", e, bad, nodes, `false 1`)
		check("bad bounds, too many", e, bad, fill(601), `false 1`)
		check("bad bounds, none", equation(" = "), bad, nil, `false 1`)
	}
}
