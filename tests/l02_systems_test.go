package tests

import (
	"slices"
	"strings"
	"testing"

	"loop.example/g01143/impl"
)

// goodSystems are valid systems, with the edges among them.
func goodSystems() [][]impl.Equation {
	long := strings.Repeat("WX", 12) + " = " + strings.Repeat("d", 24)
	return [][]impl.Equation{
		nil,
		{},
		system(" = "),
		system("X = "),
		system(" = aX"),
		system("Xab = baX"),
		system(" = ", " = ", " = ", " = "),
		system("XY = YX", "Z = aW", " = b", "cd = "),
		system(long, long, long, long),
	}
}

func TestValidSystem(t *testing.T) {
	for _, list := range goodSystems() {
		if !impl.ValidSystem(list) {
			t.Errorf("%q is a system", list)
		}
		for _, e := range list {
			if !impl.ValidEquation(e) {
				t.Errorf("%q is an equation", e)
			}
		}
	}
	for _, list := range noSystems() {
		if impl.ValidSystem(list) {
			t.Errorf("a list of %d, with %.60q, is taken for a system", len(list), list[len(list)-1])
		}
	}
	for _, e := range noEquations() {
		if impl.ValidEquation(e) || impl.ValidSystem([]impl.Equation{e}) {
			t.Errorf("%.60q is taken for an equation", e)
		}
	}
}

func TestSameSystem(t *testing.T) {
	bad := []impl.Equation{{Left: "e", Right: strings.Repeat("a", 30)}}
	lists := append(goodSystems()[1:], bad, system("baX = Xab"), system("Xab = baX", "Xab = baX"), system("XY = YX", "Z = aW", "cd = ", " = b"), make([]impl.Equation, 7), make([]impl.Equation, 8))
	for i, a := range lists {
		for k, b := range lists {
			if impl.SameSystem(a, slices.Clone(b)) != (i == k) {
				t.Errorf("SameSystem of %q and %q is %v", a, b, i != k)
			}
		}
	}
	if !impl.SameSystem(nil, []impl.Equation{}) || !impl.SameSystem([]impl.Equation{}, nil) || impl.SameSystem(nil, system(" = ")) {
		t.Error("the empty system is not just the same as itself")
	}
}

func TestSystemText(t *testing.T) {
	same(t, "texts", `"" "Xab = baX\n" "XY = YX\nZ = aW\n = b\ncd = \n" " = \n = \n = \n = \n"`, impl.SystemText(nil), impl.SystemText(system("Xab = baX")),
		impl.SystemText(system("XY = YX", "Z = aW", " = b", "cd = ")), impl.SystemText(make([]impl.Equation, 4)))
	for _, list := range goodSystems() {
		got, code := impl.ReadSystem(impl.SystemText(list))
		if code != impl.OK || !slices.Equal(got, list) {
			t.Errorf("%q is read again as %q, %d", list, got, code)
		}
	}
	for _, list := range noSystems() {
		if text := impl.SystemText(list); text != "" {
			t.Errorf("a list of %d that is no system has the text %.60q", len(list), text)
		}
	}
}

func TestReadSystem(t *testing.T) {
	list, code := impl.ReadSystem("")
	same(t, "the empty text", `[] 0`, list, code)
	list, code = impl.ReadSystem(" = \nXa = \n = bY\nX = X\n")
	same(t, "four lines", `[{"" ""} {"Xa" ""} {"" "bY"} {"X" "X"}] 0`, list, code)
	most := strings.Repeat("abcd", 6)
	list, code = impl.ReadSystem(most + " = WX\n")
	same(t, "the longest term", `[{"`+most+`" "WX"}] 0`, list, code)
	bad := []string{
		"X = a", "\n", "\n\n", "X = a\n\n", "\nX = a\n", "X = a\nY = b", "X = a\r\n", "X = a\n ",
		"X= a\n", "X =a\n", "X=a\n", "X  = a\n", "X =  a\n", " X = a\n", "X = a \n", "X\n", " =\n", "= \n", "=\n", " \n", "  = \n", "X =\n", "= a\n",
		"X = a = b\n", " =  = \n", " = = \n", "X == a\n", "X = a Y = b\n", "X = a\x00\n", "x = a\n", "X = e\n", "X\t=\ta\n", "\xff = a\n", "X = a\ntorn",
		"a = a\na = a\na = a\na = a\na = a\n", " = \n = \n = \n = \n = \n", " = \n = \n = \n = \n\n",
		most + "a = X\n", "X = " + most + "a\n",
	}
	for _, text := range bad {
		list, code = impl.ReadSystem(text)
		same(t, "the text "+text, `[] 5`, list, code)
	}
}

func TestReadSystemLimit(t *testing.T) {
	just := strings.Repeat("X = a\n", 666) + "X = "
	texts := []string{just, strings.Repeat("a", 4000), strings.Repeat("\n", 4000), strings.Repeat(" = \n", 1000)}
	for _, text := range texts {
		list, code := impl.ReadSystem(text)
		same(t, "just 4000 bytes", `[] 5`, list, code)
		list, code = impl.ReadSystem(text + "\n")
		same(t, "4001 bytes", `[] 2`, list, code)
	}
	list, code := impl.ReadSystem(strings.Repeat("X = a\n", 166666))
	same(t, "a very long text", `[] 2`, list, code)
}

func TestHolds(t *testing.T) {
	lists := [][]impl.Equation{nil, system("XY = YX"), system("Xa = aX", "bY = Yb"), system("Za = aW", "W = Z"), system("X = a", "X = b"), system("XX = Y", "Y = aWa", "Z = "), system(" = "), system("a = ", " = ")}
	for _, list := range lists {
		for _, v := range valuesUpTo("XYZW", 3) {
			yes, code := impl.Holds(list, v)
			if yes != solves(list, v) || code != impl.OK {
				t.Errorf("Holds of %q and %q: got %v, %d", list, v, yes, code)
			}
		}
	}
}

func TestHoldsEdges(t *testing.T) {
	most := strings.Repeat("ab", 30)
	yes, code := impl.Holds(system("XXY = YXX"), values(most, most))
	same(t, "180 letters", `true 0`, yes, code)
	yes, code = impl.Holds(system(strings.Repeat("X", 24)+" = "+strings.Repeat("Y", 24)), values(most, most))
	same(t, "1440 letters", `true 0`, yes, code)
	yes, code = impl.Holds(system("Xa = aX"), values(most))
	same(t, "61 letters, different ones", `false 0`, yes, code)
	yes, code = impl.Holds(system("XaY = aYX"), values(most, most[:59]))
	same(t, "120 letters, different ones", `false 0`, yes, code)
	yes, code = impl.Holds(system("Z = Z"), values(most, most, "", most))
	same(t, "unknowns that do not occur", `true 0`, yes, code)
	yes, code = impl.Holds(system("X = a", "Y = a", "Z = a", "W = a"), values("a", "a", "a", "b"))
	same(t, "only the last one does not hold", `false 0`, yes, code)
	yes, code = impl.Holds(nil, values(most, most, most, most))
	same(t, "the empty system", `true 0`, yes, code)
	for _, bad := range noValues() {
		yes, code = impl.Holds(system("a = a"), bad)
		same(t, "no values", `false 1`, yes, code)
		yes, code = impl.Holds(nil, bad)
		same(t, "no values of the empty system", `false 1`, yes, code)
	}
	for _, bad := range noSystems() {
		yes, code = impl.Holds(bad, values())
		same(t, "no system", `false 1`, yes, code)
	}
	yes, code = impl.Holds([]impl.Equation{{Left: "a"}, {Left: "e"}}, values())
	same(t, "an invalid equation behind one that does not hold", `false 1`, yes, code)
}

// stripByHand takes symbols away, first at the beginnings and then at the ends.
func stripByHand(left, right string) (string, string) {
	n := 0
	for n < len(left) && n < len(right) && left[n] == right[n] {
		n++
	}
	left, right = left[n:], right[n:]
	n = 0
	for n < len(left) && n < len(right) && left[len(left)-1-n] == right[len(right)-1-n] {
		n++
	}
	return left[:len(left)-n], right[:len(right)-n]
}

// clashByHand tells the first clash of stripped terms.
func clashByHand(left, right string) (int64, int64) {
	letter := func(c byte) bool { return c >= 'a' }
	some := left != "" && right != ""
	switch {
	case some && letter(left[0]) && letter(right[0]):
		return 1, impl.OK
	case some && letter(left[len(left)-1]) && letter(right[len(right)-1]):
		return 2, impl.OK
	case !some && strings.Trim(left+right, "XYZW") != "":
		return 3, impl.OK
	}
	return 0, impl.ErrNotFound
}

func TestStripEndsAndClashes(t *testing.T) {
	for _, e := range equations(textsUpTo("abXY", 4)) {
		left, right := stripByHand(e.Left, e.Right)
		got, code := impl.StripEnds(e)
		if got.Left != left || got.Right != right || code != impl.OK {
			t.Fatalf("StripEnds of %q: got %q, %d", e, got, code)
		}
		want, wantCode := clashByHand(left, right)
		clash, code := impl.ClashOf(e)
		if clash != want || code != wantCode {
			t.Fatalf("ClashOf %q: got %d, %d, want %d, %d", e, clash, code, want, wantCode)
		}
	}
}

func TestStripEndsEdges(t *testing.T) {
	cases := map[string]string{
		" = ":               `{"" ""} 0`,
		"aXa = aXa":         `{"" ""} 0`,
		"aa = a":            `{"a" ""} 0`,
		"aXa = a":           `{"Xa" ""} 0`,
		"X = aX":            `{"" "a"} 0`,
		"aXbXa = aXa":       `{"bX" ""} 0`,
		"dWabcWd = dWcbaWd": `{"abc" "cba"} 0`,
		"Xa = Ya":           `{"X" "Y"} 0`,
		"aX = bX":           `{"a" "b"} 0`,
		"abXY = baXY":       `{"ab" "ba"} 0`,
		"Xab = bXab":        `{"" "b"} 0`,
		strings.Repeat("X", 24) + " = " + strings.Repeat("X", 23): `{"X" ""} 0`,
	}
	for text, want := range cases {
		e, code := impl.StripEnds(equation(text))
		same(t, "StripEnds "+text, want, e, code)
	}
	for _, bad := range noEquations() {
		e, code := impl.StripEnds(bad)
		same(t, "no equation", `{"" ""} 1`, e, code)
		clash, code := impl.ClashOf(bad)
		same(t, "ClashOf no equation", `0 1`, clash, code)
	}
}

func TestClashEdges(t *testing.T) {
	cases := map[string]string{
		"aXa = bXb":   "1 0", // 2 would be right, too
		"aXc = bXd":   "1 0",
		"XaYb = XbYb": "1 0",
		"Xa = Yb":     "2 0",
		"Xa = bXb":    "2 0",
		"aXc = Xad":   "2 0",
		"aXa = a":     "3 0", // what is left begins with an unknown
		" = XYZWa":    "3 0",
		"aX = X":      "3 0",
		"X = Xab":     "3 0",
		"d = ":        "3 0",
		" = XYZ":      "0 6",
		"XX = X":      "0 6",
		"a = a":       "0 6",
		" = ":         "0 6",
		"aX = Ya":     "0 6",
		"Xab = baX":   "0 6",
		"aX = Xb":     "0 6", // no clash, although there is no solution
		"X = a":       "0 6",
		"cX = dXc":    "1 0",
		"cX = aYd":    "1 0",
	}
	for text, want := range cases {
		clash, code := impl.ClashOf(equation(text))
		same(t, "ClashOf "+text, want, clash, code)
	}
}

// TestStripAndClashSolutions looks at the guarantees for solutions.
func TestStripAndClashSolutions(t *testing.T) {
	all := valuesUpTo("XY", 2)
	for _, e := range equations(textsUpTo("abXY", 2)) {
		e = impl.Equation{Left: "aX" + e.Left + "Y", Right: "aX" + e.Right + "Y"}
		less, _ := impl.StripEnds(e)
		_, code := impl.ClashOf(e)
		for _, v := range all {
			yes := solves([]impl.Equation{e}, v)
			if yes != solves([]impl.Equation{less}, v) {
				t.Fatalf("%q and %q differ for %q", e, less, v)
			}
			if yes && code == impl.OK {
				t.Fatalf("%q clashes, but has the solution %q", e, v)
			}
		}
	}
}

func TestReplaceIn(t *testing.T) {
	list, code := impl.ReplaceIn(system("XaY = YaX", "XX = ", "b = Z"), "X", "bX")
	same(t, "three equations", `[{"bXaY" "YabX"} {"bXbX" ""} {"b" "Z"}] 0`, list, code)
	list, code = impl.ReplaceIn(system("XY = YX"), "Y", "")
	same(t, "by nothing", `[{"X" "X"}] 0`, list, code)
	list, code = impl.ReplaceIn(nil, "W", "ab")
	same(t, "the empty system", `[] 0`, list, code)
	list, code = impl.ReplaceIn(system(" = "), "W", "ab")
	same(t, "empty terms", `[{"" ""}] 0`, list, code)
	most := strings.Repeat("aY", 12)
	list, code = impl.ReplaceIn(system(most+" = X", "c = "+most), "Z", most)
	same(t, "an unknown that does not occur", `[{"`+most+`" "X"} {"c" "`+most+`"}] 0`, list, code)
	list, code = impl.ReplaceIn(system("XX = b", "b = XX"), "X", most[:12])
	same(t, "just 24", `[{"`+most+`" "b"} {"b" "`+most+`"}] 0`, list, code)
	for _, texts := range [][]string{{"XXa = b"}, {"b = aXX"}, {"X = X", "b = ", " = b", "XXZ = "}, {"X = X", "X = ", " = X", "Y = XXX"}} {
		list, code = impl.ReplaceIn(system(texts...), "X", most[:12])
		same(t, "more than 24", `[] 3`, list, code)
	}
}

// TestReplacedSolutions looks at what becomes of solutions.
func TestReplacedSolutions(t *testing.T) {
	list := system("XaY = YaX", "Xb = bX")
	for _, by := range []string{"", "a", "aX", "Y", "YX", "ZZ"} {
		replaced, code := impl.ReplaceIn(list, "X", by)
		if code != impl.OK {
			t.Fatalf("by %q: %d", by, code)
		}
		for _, v := range valuesUpTo("XYZ", 3) {
			before := values(putIn(by, v), v[1], v[2])
			if solves(replaced, v) != solves(list, before) {
				t.Errorf("by %q: %q and %q", by, v, before)
			}
		}
	}
}

func TestReplaceInErrors(t *testing.T) {
	most := strings.Repeat("X", 24)
	for _, x := range []string{"", "a", "e", "x", "XX", "XY", " X", "\xff", most} {
		for _, list := range [][]impl.Equation{nil, system("a = X"), system(most + " = " + most)} {
			got, code := impl.ReplaceIn(list, x, most)
			same(t, "no unknown", `[] 2`, got, code)
		}
	}
	for _, bad := range append(noTerms(), strings.Repeat("b", 25)) {
		for _, x := range []string{"X", "x"} {
			got, code := impl.ReplaceIn(nil, x, bad)
			same(t, "by no term, in the empty system", `[] 1`, got, code)
			got, code = impl.ReplaceIn(system(most+" = "), x, bad)
			same(t, "by no term", `[] 1`, got, code)
		}
	}
	for _, bad := range noSystems() {
		for _, x := range []string{"X", "x"} {
			got, code := impl.ReplaceIn(bad, x, "a")
			same(t, "no system", `[] 1`, got, code)
		}
	}
	got, code := impl.ReplaceIn(append(system(most+" = "), impl.Equation{Left: "e"}), "X", "aa")
	same(t, "an invalid equation behind a long one", `[] 1`, got, code)
}

func TestCombineEquations(t *testing.T) {
	e, code := impl.CombineEquations(equation("X = a"), equation("Y = b"))
	same(t, "two equations", `{"XaYXbY" "aababb"} 0`, e, code)
	e, code = impl.CombineEquations(equation(" = "), equation(" = "))
	same(t, "empty terms", `{"ab" "ab"} 0`, e, code)
	e, code = impl.CombineEquations(equation("XY = "), equation(" = Z"))
	same(t, "some empty terms", `{"XYaXYb" "aZbZ"} 0`, e, code)
	six, five, most := "XXXYYY", "ZZWWd", strings.Repeat("c", 24)
	e, code = impl.CombineEquations(equation(six+" = "+five), equation(five+" = "+six))
	same(t, "just 24", `{"`+six+"a"+five+six+"b"+five+`" "`+five+"a"+six+five+"b"+six+`"} 0`, e, code)
	for _, pair := range [][]string{{six + " = ", six + " = "}, {" = " + six, " = " + six}, {most + " = ", " = "}, {" = ", " = " + most}, {most + " = " + most, most + " = " + most}} {
		e, code = impl.CombineEquations(equation(pair[0]), equation(pair[1]))
		same(t, "more than 24", `{"" ""} 3`, e, code)
	}
	for _, bad := range noEquations() {
		e, code = impl.CombineEquations(bad, equation(most+" = "))
		same(t, "the first one is none", `{"" ""} 1`, e, code)
		e, code = impl.CombineEquations(equation(most+" = "), bad)
		same(t, "the second one is none", `{"" ""} 1`, e, code)
	}
}

// TestCombinedSolutions finds that combined equations have just the solutions of both.
func TestCombinedSolutions(t *testing.T) {
	list := system("X = a", "XY = YX", "Xa = aX", "X = Y", "aX = Yb", "X = ", "a = a", "a = b", "XX = aYa", " = Y")
	all := valuesUpTo("XY", 3)
	for _, e := range list {
		for _, f := range list {
			both, code := impl.CombineEquations(e, f)
			if code != impl.OK {
				t.Fatalf("%q and %q: %d", e, f, code)
			}
			for _, v := range all {
				if solves([]impl.Equation{both}, v) != solves([]impl.Equation{e, f}, v) {
					t.Errorf("%q and %q: %q differs for %q", e, f, both, v)
				}
			}
		}
	}
}
