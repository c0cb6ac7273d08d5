package tests

import (
	"slices"
	"strings"
	"testing"

	"loop.example/g01143/impl"
)

func TestShortestWay(t *testing.T) {
	for _, e := range append(stepEquations(), system(fullSolvable, "XZXYWb = bWYZ", "abXbYX = ZYZa")...) {
		g, ok := graphByHand(e, 300)
		got, code := impl.ShortestWay(e)
		switch {
		case !ok:
			same(t, "ShortestWay "+e.Left+" = "+e.Right, `[] 3`, got, code)
			continue
		case !slices.Contains(g.Nodes, impl.Equation{}):
			same(t, "ShortestWay "+e.Left+" = "+e.Right, `[] 6`, got, code)
			continue
		}
		ways := waysByHand(e, 0)
		for length := 1; len(ways) == 0; length++ {
			ways = waysByHand(e, length)
		}
		same(t, "ShortestWay "+e.Left+" = "+e.Right, `"`+ways[0]+`" 0`, textOf(got), code)
		yes, code := impl.CheckWay(e, got)
		v, valuesCode := impl.ValuesOfWay(got)
		if !yes || code != impl.OK || valuesCode != impl.OK || !solves([]impl.Equation{e}, v) {
			t.Errorf("ShortestWay of %q: %q is %v, %d, with the values %q, %d", e, textOf(got), yes, code, v, valuesCode)
		}
	}
}

func TestShortestWayCases(t *testing.T) {
	cases := [][2]string{
		{" = ", ""}, {"aX = aX", ""}, {"X = ", "X="}, {" = XY", "X= Y="}, {"Xa = aX", "X="}, {"XY = YX", "X="}, {"YX = XY", "Y="}, {"Xab = baX", "X=bX X="}, {"X = aab", "X=aX X=aX X=bX X="},
		{"X = Y", "X=Y"}, {"XZ = YW", "X=Y Z=W"}, {"ZX = WY", "Z=W X=Y"}, {"XX = aYa", "X=aX X= Y="},
	}
	for _, c := range cases {
		got, code := impl.ShortestWay(equation(c[0]))
		same(t, "ShortestWay "+c[0], `"`+c[1]+`" 0`, textOf(got), code)
	}
	for _, text := range []string{"a = b", "a = ", " = Xb", "Xa = bX", "XX = a", "XaX = YbY", fullRefused} {
		got, code := impl.ShortestWay(equation(text))
		same(t, "ShortestWay "+text, `[] 6`, got, code)
	}
}

func TestCheckWay(t *testing.T) {
	cases := []struct {
		equation string
		way      string
		want     string
	}{
		{"Xa = aX", "X=", `true 0`}, {"Xa = aX", "X=aX X=", `true 0`}, {"Xa = aX", "X=aX X=aX X=aX X=", `true 0`}, {"bXac = baXc", "X=aX X=", `true 0`},
		{"Xa = aX", "", `false 0`}, {"Xa = aX", "X=aX", `false 0`}, {"Xa = aX", "X=a", `false 0`}, {"Xa = aX", "X=bX X=", `false 0`}, {"Xa = aX", "Y= X=", `false 0`}, {"Xa = aX", "X=aX X= X=", `false 0`},
		{"Xa = aX", "X= X=", `false 0`}, {"Xa = aX", "X= Y=", `false 0`}, {"Xa = bX", "X=", `false 0`}, {"Xa = bX", "X=bX X=", `false 0`},
		{"XY = YX", "X=", `true 0`}, {"XY = YX", "Y=", `true 0`}, {"XY = YX", "X=Y", `true 0`}, {"XY = YX", "Y=X", `false 0`}, {"XY = YX", "X=YX Y=XY X=Y", `true 0`}, {"XY = YX", "X=XY", ``},
		{"YX = XY", "Y=X", `true 0`}, {"YX = XY", "X=Y", `false 0`}, {"XY = YX", "X= Y=", `false 0`}, {"XY = YX", "X=a Y=a", `false 0`},
		{" = ", "", `true 0`}, {"aX = aX", "", `true 0`}, {"aX = aX", "X=", `false 0`}, {" = ", "X=", `false 0`}, {"a = b", "", `false 0`}, {"a = ", "", `false 0`}, {"a = b", "X=", `false 0`},
		{"XY = ", "X= Y=", `true 0`}, {"XY = ", "Y= X=", `false 0`}, {" = XY", "X=", `false 0`}, {" = XaY", "X= Y=", `false 0`}, {"X = ", "X=aX X=", `false 0`}, {"X = a", "X=a", `false 0`}, {"X = a", "X=aX X=", `true 0`},
	}
	for _, c := range cases {
		yes, code := impl.CheckWay(equation(c.equation), steps(c.way))
		if c.want == "" {
			c.want = `false 1`
		}
		same(t, c.equation+" and "+c.way, c.want, yes, code)
	}
}

// TestCheckWayAll looks at all lists of up to four of the steps that may matter.
func TestCheckWayAll(t *testing.T) {
	some := steps("X= Y= X=Y Y=X X=YX Y=XY X=aX Y=aY X=a")
	var list func(begun []impl.Step, most int, look func([]impl.Step))
	list = func(begun []impl.Step, most int, look func([]impl.Step)) {
		look(begun)
		for _, s := range some {
			if most > 0 {
				list(append(slices.Clip(begun), s), most-1, look)
			}
		}
	}
	for _, e := range system("XY = YX", "Xa = aX", "XaY = YaX", "aX = Y", "XX = Ya", "XYX = aYa", " = ", "XY = ", "X = aa", "XXX = YY") {
		ways := map[string]bool{}
		for length := range 5 {
			for _, way := range waysByHand(e, length) {
				ways[way] = true
			}
		}
		list(nil, 4, func(way []impl.Step) {
			yes, code := impl.CheckWay(e, way)
			if yes != ways[textOf(way)] || yes && len(way) == 0 && !isSolvedByHand(e) || code != impl.OK {
				t.Fatalf("CheckWay of %q and %q: got %v, %d", e, textOf(way), yes, code)
			}
		})
	}
}

func TestCheckWayLimits(t *testing.T) {
	e := equation("Xa = aX")
	yes, code := impl.CheckWay(e, steps(times(59, "X=aX", "X=")))
	same(t, "just MaxWay steps", `true 0`, yes, code)
	yes, code = impl.CheckWay(e, steps(times(60, "X=aX", "X=")))
	same(t, "one more", `false 2`, yes, code)
	yes, code = impl.CheckWay(equation("Xa = bX"), steps(times(60, "X=bX", "")))
	same(t, "just MaxWay steps that are no way", `false 0`, yes, code)
	yes, code = impl.CheckWay(equation("Xa = bX"), steps(times(61, "X=bX", "")))
	same(t, "one more that are no way", `false 2`, yes, code)
	yes, code = impl.CheckWay(equation(" = "), steps(times(61, "Y=", "")))
	same(t, "one more for a solved equation", `false 2`, yes, code)
	yes, code = impl.CheckWay(e, steps(times(60, "X=aX", "X=X")))
	same(t, "one more, the last one invalid", `false 1`, yes, code)
	yes, code = impl.CheckWay(e, make([]impl.Step, 300000))
	same(t, "very many steps", `false 2`, yes, code)
	for _, s := range noSteps() {
		yes, code = impl.CheckWay(e, []impl.Step{step("X="), s})
		same(t, "an invalid step behind a way", `false 1`, yes, code)
		yes, code = impl.CheckWay(e, append([]impl.Step{s}, steps(times(60, "X=aX", "X="))...))
		same(t, "an invalid step in front of very many", `false 1`, yes, code)
	}
	for _, e := range noEquations() {
		yes, code = impl.CheckWay(e, steps("X="))
		same(t, "no equation", `false 1`, yes, code)
		yes, code = impl.CheckWay(e, steps(times(60, "X=aX", "X=")))
		same(t, "no equation, too many steps", `false 1`, yes, code)
		yes, code = impl.CheckWay(e, nil)
		same(t, "no equation, no steps", `false 1`, yes, code)
	}
}

// TestCheckWayNotApplied has a step of StepsOf that cannot be applied, and others of the same equation that can.
func TestCheckWayNotApplied(t *testing.T) {
	yes, code := impl.CheckWay(tooLongSolvable, steps("X=YX X="))
	same(t, "a step that cannot be applied", `false 0`, yes, code)
	yes, code = impl.CheckWay(tooLongSolvable, steps("X=YX"))
	same(t, "only a step that cannot be applied", `false 0`, yes, code)
	yes, code = impl.CheckWay(tooLongSolvable, steps("X="))
	same(t, "a step that can be applied", `true 0`, yes, code)
	yes, code = impl.CheckWay(tooLongSolvable, steps("Y=XY Y=XY X=Y"))
	same(t, "three steps that can be applied", `true 0`, yes, code)
	yes, code = impl.CheckWay(tooLongSolvable, steps("Y=XY X=YX X=Y"))
	same(t, "the second step cannot be applied", `false 0`, yes, code)
}

func TestValuesOfWay(t *testing.T) {
	cases := [][2]string{
		{"", `["" "" "" ""] 0`}, {"X=", `["" "" "" ""] 0`}, {"X=a", `["a" "" "" ""] 0`}, {"X=aX X=", `["a" "" "" ""] 0`}, {"X=aX X=bX X=cX", `["abc" "" "" ""] 0`}, {"Z=aZ W=ZW X=WX", `["" "" "a" ""] 0`},
		{"X=WX W=ZW Z=aZ", `["a" "" "a" "a"] 0`}, {"X=YX Y=XY X=aX", `["aa" "a" "" ""] 0`}, {"X=Y Y=ab", ``}, {"X=Y Y=aY Y=b", `["ab" "ab" "" ""] 0`}, {"Y=aY X=Y Y=b", `["b" "ab" "" ""] 0`},
		{"X=Y", `["" "" "" ""] 0`}, {"X= X=a", `["" "" "" ""] 0`}, {"X=a X=b", `["a" "" "" ""] 0`}, {"W=d Z=c Y=b X=a", `["a" "b" "c" "d"] 0`}, {"X=aX X= X=b", `["a" "" "" ""] 0`},
	}
	for _, c := range cases {
		v, code := impl.ValuesOfWay(steps(c[0]))
		if c[1] == "" {
			c[1] = `[] 1`
		}
		same(t, "ValuesOfWay "+c[0], c[1], v, code)
	}
}

func TestValuesOfWayLimits(t *testing.T) {
	sixty := strings.Repeat("a", 60)
	v, code := impl.ValuesOfWay(steps(times(60, "X=aX", "")))
	same(t, "just MaxWay steps and MaxWord letters", `["`+sixty+`" "" "" ""] 0`, v, code)
	v, code = impl.ValuesOfWay(steps(times(60, "X=aX", "X=")))
	same(t, "one step more", `[] 2`, v, code)
	v, code = impl.ValuesOfWay(steps(times(61, "X=", "")))
	same(t, "one step more, of nothing", `[] 2`, v, code)
	v, code = impl.ValuesOfWay(steps("X=YX X=YX " + times(30, "Y=aY", "")))
	same(t, "two times 30 letters", `["`+sixty+`" "`+sixty[:30]+`" "" ""] 0`, v, code)
	v, code = impl.ValuesOfWay(steps("X=bX X=YX X=YX " + times(30, "Y=aY", "")))
	same(t, "61 letters", `[] 3`, v, code)
	v, code = impl.ValuesOfWay(steps("Y=a X=bX X=YX X=YX " + times(30, "Y=aY", "")))
	same(t, "61 letters, and a step of another unknown", `[] 3`, v, code)
	v, code = impl.ValuesOfWay(steps("X= X=bX X=YX X=YX " + times(30, "Y=aY", "")))
	same(t, "61 letters that are lost again", `[] 3`, v, code)
	v, code = impl.ValuesOfWay(steps(times(20, "X=YX Y=XY", "Y=a")))
	same(t, "very many letters", `[] 3`, v, code)
	v, code = impl.ValuesOfWay(steps(times(20, "X=YX Y=XY", times(20, "X=aX", ""))))
	same(t, "very many letters in just MaxWay steps", `[] 3`, v, code)
	v, code = impl.ValuesOfWay(steps(times(20, "X=YX Y=XY", times(21, "X=aX", ""))))
	same(t, "very many letters in more steps", `[] 2`, v, code)
	for _, s := range noSteps() {
		v, code = impl.ValuesOfWay([]impl.Step{s})
		same(t, "an invalid step", `[] 1`, v, code)
		v, code = impl.ValuesOfWay(append(steps(times(60, "X=aX", "X=")), s))
		same(t, "an invalid step behind too many", `[] 1`, v, code)
		v, code = impl.ValuesOfWay(append([]impl.Step{s}, steps(times(20, "X=YX Y=XY", "Y=a"))...))
		same(t, "an invalid step in front of too many letters", `[] 1`, v, code)
	}
}

// TestWayOfValues goes along all small solutions.
func TestWayOfValues(t *testing.T) {
	list := append(equations(textsUpTo("aXY", 2)), system("Xab = baX", "XY = YX", "XaY = YaX", "aXbY = YbXa", "XXY = YXX", "XXX = YYY", "XaXaX = YaY", "XYXY = YXYX", "XXaa = YaYa", "XYaX = aYXX")...)
	small := valuesUpTo("XY", 3)
	for _, e := range list {
		for _, v := range small {
			got, code := impl.WayOfValues(e, v)
			if !solves([]impl.Equation{e}, v) {
				same(t, "WayOfValues", `[] 4`, got, code)
				continue
			}
			if want, _ := wayByHand(e, v); textOf(got) != want || code != impl.OK {
				t.Fatalf("WayOfValues of %q and %q: got %s, %d, want %s", e, v, textOf(got), code, want)
			}
			checkAlong(t, e, v, got)
		}
	}
}

// checkAlong looks at the way of a solution: its values are a solution that is not longer.
func checkAlong(t *testing.T, e impl.Equation, v []string, way []impl.Step) {
	t.Helper()
	yes, code := impl.CheckWay(e, way)
	own, ownCode := impl.ValuesOfWay(way)
	if !yes || code != impl.OK || ownCode != impl.OK || !solves([]impl.Equation{e}, own) {
		t.Fatalf("the way %s of %q and %q is %v, %d, with the values %q, %d", textOf(way), e, v, yes, code, own, ownCode)
	}
	for x, w := range own {
		if len(w) > len(v[x]) {
			t.Fatalf("the way %s of %q and %q has longer values %q", textOf(way), e, v, own)
		}
	}
}

// TestWayOfValuesAlong goes along all small solutions of equations with other unknowns.
func TestWayOfValuesAlong(t *testing.T) {
	for _, e := range system("ZXW = WYZ", "XY = ZW", "YXZ = ZXY", "aWY = ZbX", "XYZW = WZYX", "ZZWX = XWZ") {
		for _, lengths := range lengthListsUpTo(e, 8) {
			v, _, code := impl.SolveLengths([]impl.Equation{e}, lengths)
			if code != impl.OK {
				continue
			}
			got, code := impl.WayOfValues(e, v)
			if want, _ := wayByHand(e, v); textOf(got) != want || code != impl.OK {
				t.Fatalf("WayOfValues of %q and %q: got %s, %d, want %s", e, v, textOf(got), code, want)
			}
			checkAlong(t, e, v, got)
		}
	}
}

// lengthListsUpTo returns the lengths that solutions of an equation may have.
func lengthListsUpTo(e impl.Equation, most int64) [][]int64 {
	lists, _ := impl.LengthLists([]impl.Equation{e}, most)
	return lists
}

func TestWayOfValuesCases(t *testing.T) {
	cases := []struct {
		equation string
		values   []string
		want     string
	}{
		{"XY = YX", values("ab", "abab"), `"Y=XY X=Y" 0`}, {"XY = YX", values("abab", "ab"), `"X=YX X=Y" 0`}, {"XY = YX", values("ab", "ab"), `"X=Y" 0`}, {"YX = XY", values("ab", "ab"), `"Y=X" 0`},
		{"XY = YX", values("", "ab"), `"X=" 0`}, {"XY = YX", values("ab", ""), `"Y=" 0`}, {"XY = YX", values("", ""), `"X=" 0`}, {"YX = XY", values("", ""), `"Y=" 0`},
		{"Xa = aX", values("aa"), `"X=aX X=aX X=" 0`}, {"Xa = aX", values(""), `"X=" 0`}, {"aX = Xa", values("a"), `"X=aX X=" 0`}, {"Xab = baX", values("bab"), `"X=bX X=aX X=bX X=" 0`},
		{" = ", values("ab", "c"), `"" 0`}, {"XaY = XaY", values("ab", "c"), `"" 0`}, {"XY = XY", values("", ""), `"" 0`}, {"X = ", values("", "c"), `"X=" 0`}, {" = XYX", values("", "", "a"), `"X= Y=" 0`},
		{"XaY = Xab", values("abc", "b", "a", "a"), `"Y=bY Y=" 0`}, {"X = ab", values("ab", "dd"), `"X=aX X=bX X=" 0`}, {"ab = X", values("ab", "dd"), `"X=aX X=bX X=" 0`},
		{"XXX = YY", values("aa", "aaa"), `"Y=XY X=YX X=Y" 0`}, {"XXX = aaa", values("a"), `"X=aX X=" 0`}, {"ZX = YZ", values("a", "a", ""), `"Z= X=Y" 0`}, {"X = YZ", values("ab", "a", "b"), `"X=YX X=Z" 0`},
		{"YZ = X", values("ab", "a", "b"), `"X=YX Z=X" 0`}, {"X = Y", values("", ""), `"X= Y=" 0`}, {"X = YZ", values("a", "", "a"), `"Y= X=Z" 0`}, {"XZ = YZ", values("cd", "cd", "a"), `"X=Y" 0`},
		{"X = a", values("b"), `"" 4`}, {"a = b", values(), `"" 4`}, {"a = ", values(), `"" 4`}, {"XY = YX", values("a", "b"), `"" 4`}, {" = X", values("a"), `"" 4`},
	}
	for _, c := range cases {
		got, code := impl.WayOfValues(equation(c.equation), c.values)
		same(t, c.equation, c.want, textOf(got), code)
	}
}

func TestWayOfValuesLimits(t *testing.T) {
	a, e := strings.Repeat("a", 60), equation("Xa = aX")
	got, code := impl.WayOfValues(e, values(a[:59]))
	same(t, "just MaxWay steps", `"`+times(59, "X=aX", "X=")+`" 0`, textOf(got), code)
	checkAlong(t, e, values(a[:59]), got)
	got, code = impl.WayOfValues(e, values(a))
	same(t, "one step more", `[] 3`, got, code)
	got, code = impl.WayOfValues(equation("XabYc = aXbcY"), values(a[:29], "", strings.Repeat("c", 29)))
	same(t, "another unknown is empty", `"`+times(29, "X=aX", "X= Y=")+`" 0`, textOf(got), code)
	c := strings.Repeat("c", 30)
	got, code = impl.WayOfValues(equation("XabYc = aXbcY"), values(a[:29], c[:29]))
	same(t, "just MaxWay steps for two unknowns", `"`+times(29, "X=aX", "X= ")+times(29, "Y=cY", "Y=")+`" 0`, textOf(got), code)
	got, code = impl.WayOfValues(equation("XabYc = aXbcY"), values(a[:29], c))
	same(t, "one step more for two unknowns", `[] 3`, got, code)
	got, code = impl.WayOfValues(equation("XY = YX"), values(a, a))
	same(t, "texts of more than MaxWord letters", `"X=Y" 0`, textOf(got), code)
	got, code = impl.WayOfValues(equation("XY = YX"), values(a, a[:1]))
	same(t, "60 steps along 60 letters", `"`+times(59, "X=YX", "X=Y")+`" 0`, textOf(got), code)
	got, code = impl.WayOfValues(tooLongSolvable, values(a[:2], a[:1]))
	same(t, "a step that cannot be applied", `[] 3`, got, code)
	got, code = impl.WayOfValues(tooLongSolvable, values(a[:1], a[:2]))
	same(t, "another one that can", `"Y=XY X=Y" 0`, textOf(got), code)
	got, code = impl.WayOfValues(tooLongSolvable, values(a[:1], "b"))
	same(t, "no solution comes first", `[] 4`, got, code)
	got, code = impl.WayOfValues(e, values(a[:59]+"b"))
	same(t, "no solution, and many letters", `[] 4`, got, code)
	for _, bad := range noValues() {
		got, code = impl.WayOfValues(e, bad)
		same(t, "no values", `[] 1`, got, code)
		got, code = impl.WayOfValues(equation(" = "), bad)
		same(t, "no values of a solved equation", `[] 1`, got, code)
		got, code = impl.WayOfValues(equation("a = b"), bad)
		same(t, "no values, no solution", `[] 1`, got, code)
	}
	for _, bad := range noEquations() {
		got, code = impl.WayOfValues(bad, values("a"))
		same(t, "no equation", `[] 1`, got, code)
	}
}

func TestWayCount(t *testing.T) {
	for _, e := range stepEquations() {
		if _, ok := graphByHand(e, 300); !ok {
			got, code := impl.WayCount(e, 3)
			same(t, "WayCount "+e.Left+" = "+e.Right, `0 3`, got, code)
			continue
		}
		for length := range 5 {
			got, code := impl.WayCount(e, int64(length))
			if want := int64(len(waysByHand(e, length))); got != want || code != impl.OK {
				t.Fatalf("WayCount of %q and %d: got %d, %d, want %d", e, length, got, code, want)
			}
		}
	}
}

func TestWayCountEdges(t *testing.T) {
	cases := []struct {
		equation string
		length   int64
		want     string
	}{
		{"Xa = aX", 0, `0 0`}, {"Xa = aX", 1, `1 0`}, {"Xa = aX", 20, `1 0`}, {"Xa = aX", 21, `0 2`}, {"Xa = aX", -1, `0 2`}, {"XY = YX", 20, `1572864 0`}, {"XY = YX", 1, `3 0`},
		{" = ", 0, `1 0`}, {" = ", 1, `0 0`}, {" = ", 20, `0 0`}, {"aX = aX", 0, `1 0`}, {"aX = aX", 2, `0 0`}, {"Xa = bX", 0, `0 0`}, {"Xa = bX", 20, `0 0`}, {"a = b", 0, `0 0`},
		{"X = ", 1, `1 0`}, {"X = ", 0, `0 0`}, {"X = Y", 1, `1 0`}, {"X = Y", 2, `4 0`}, {"X = Y", 3, `0 0`}, {"X = a", 1 << 62, `0 2`}, {"X = a", -1 << 63, `0 2`},
		{overSolvable, 21, `0 2`}, {overSolvable, -1, `0 2`}, {overSolvable, 20, `0 3`}, {overSolvable, 0, `0 3`}, {fullRefused, 20, `0 0`},
	}
	for _, c := range cases {
		got, code := impl.WayCount(equation(c.equation), c.length)
		same(t, c.equation, c.want, got, code)
	}
	got, code := impl.WayCount(equation(fullSolvable), 3)
	if want := len(waysByHand(equation(fullSolvable), 3)); got != int64(want) || code != impl.OK || want == 0 {
		t.Errorf("WayCount of %s and 3: got %d, %d, want %d", fullSolvable, got, code, want)
	}
}
