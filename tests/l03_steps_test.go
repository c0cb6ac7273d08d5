package tests

import (
	"slices"
	"strings"
	"testing"

	"loop.example/g01143/impl"
)

// allSteps returns all valid steps.
func allSteps() []impl.Step {
	texts := ""
	for _, x := range "XYZW" {
		for _, y := range "abcdXYZW" {
			if x != y {
				texts += string(x) + "=" + string(y) + " " + string(x) + "=" + string(y) + string(x) + " "
			}
		}
		texts += string(x) + "= "
	}
	return steps(texts)
}

func TestStepTexts(t *testing.T) {
	same(t, "texts", `"X=" "X=a" "X=Y" "X=aX" "W=ZW" "Y=XY" "Z=d"`, impl.StepText(step("X=")), impl.StepText(step("X=a")), impl.StepText(step("X=Y")),
		impl.StepText(impl.Step{Unknown: 0, By: "aX"}), impl.StepText(impl.Step{Unknown: 3, By: "ZW"}), impl.StepText(impl.Step{Unknown: 1, By: "XY"}), impl.StepText(impl.Step{Unknown: 2, By: "d"}))
	if n := len(allSteps()); n != 60 {
		t.Fatalf("%d steps", n)
	}
	for _, s := range allSteps() {
		text := impl.StepText(s)
		got, code := impl.ReadStep(text)
		if text != textOf([]impl.Step{s}) || got != s || code != impl.OK {
			t.Errorf("%v has the text %q, which is read as %v, %d", s, text, got, code)
		}
	}
	for _, s := range noSteps() {
		if text := impl.StepText(s); text != "" {
			t.Errorf("a step of %d by %.20q that is not valid has the text %.60q", s.Unknown, s.By, text)
		}
		if s.Unknown >= 0 && s.Unknown < 4 {
			got, code := impl.ReadStep("XYZW"[s.Unknown:s.Unknown+1] + "=" + s.By)
			same(t, "the text of a step that is not valid", `{0 } 5`, got, code)
		}
	}
}

// TestStepTextsAll reads all short texts.
func TestStepTextsAll(t *testing.T) {
	good := map[string]impl.Step{}
	for _, s := range allSteps() {
		good[textOf([]impl.Step{s})] = s
	}
	for _, text := range textsUpTo("aXYW= x", 4) {
		s, ok := good[text]
		want := int64(impl.OK)
		if !ok {
			want = impl.ErrSyntax
		}
		got, code := impl.ReadStep(text)
		if got != s || code != want {
			t.Fatalf("%q is read as %v, %d", text, got, code)
		}
	}
}

func TestReadStepFaults(t *testing.T) {
	bad := []string{
		"", "X", "=", "==", "=X", "=a", "=aX", "Xa", "XaX", "X==", "X=a=", "X==a", "X=aX=", "=X=a", "X=a=X", "XY=", "XY=a", "XYZW=a", "YZ=X", "YX=a",
		" X=a", "X =a", "X= a", "X=a ", "X= ", " X=", "X =", "X = aX", "X=a X", "X=aX\n", "\nX=aX", "X\t=a", "X=a\x00",
		"x=a", "x=", "X=x", "X=ax", "X=A", "X=AX", "y=xy", "a=X", "a=", "a=b", "V=a", "0=a", "0=", "X=0", "\xff=a", "X=\xff", "X=é", "X:=a", "X-a", "X≠a",
		strings.Repeat("X", 1000000), "X=" + strings.Repeat("a", 1000000), strings.Repeat("=", 1000000), strings.Repeat("X", 1000000) + "=a",
	}
	for _, text := range bad {
		s, code := impl.ReadStep(text)
		same(t, "the text "+text[:min(len(text), 20)], `{0 } 5`, s, code)
	}
}

func TestStepsOfCases(t *testing.T) {
	cases := [][2]string{
		{"Xb = aY", "X= X=aX"}, {"X = b", "X= X=bX"}, {"bX = Y", "Y= Y=bY"}, {"d = WX", "W= W=dW"},
		{"XY = YX", "X= Y= X=Y X=YX Y=XY"}, {"YX = XY", "Y= X= Y=X Y=XY X=YX"}, {"Wa = Zb", "W= Z= W=Z W=ZW Z=WZ"},
		{"aX = bX", ""}, {"aX = bY", ""}, {"a = b", ""},
		{" = ", ""}, {"XYa = ", "X="}, {" = Yb", "Y="}, {" = W", "W="}, {"aX = ", ""}, {" = bY", ""}, {"a = ", ""}, {" = d", ""},
		{"X = X", ""}, {"XaY = XaY", ""}, {"XaYb = XYa", "Y= Y=aY"}, {"abX = abYa", "X= Y= X=Y X=YX Y=XY"}, {"Xa = Ya", "X= Y= X=Y X=YX Y=XY"},
		{"XY = X", "Y="}, {"X = XaY", ""}, {"ZX = X", "Z="}, {"X = XX", "X="}, {"XaX = XbX", ""}, {"cX = Xc", "X= X=cX"},
	}
	for _, c := range cases {
		got, code := impl.StepsOf(equation(c[0]))
		same(t, "StepsOf "+c[0], `"`+c[1]+`" 0`, textOf(got), code)
	}
	for _, e := range stepEquations() {
		got, code := impl.StepsOf(e)
		if !slices.Equal(got, stepsByHand(e)) || code != impl.OK {
			t.Fatalf("StepsOf %q: got %q, %d", e, textOf(got), code)
		}
	}
	for _, e := range noEquations() {
		got, code := impl.StepsOf(e)
		same(t, "StepsOf no equation", `[] 1`, got, code)
	}
}

func TestApplyStep(t *testing.T) {
	list := append(equations(textsUpTo("aXY", 2)), equations(textsUpTo("bZ", 3))...)
	list = append(list, system("XabXYX = YbXaZ", "XYZW = WZYX", "aXbYc = aXcYc", " = XaX", "XXX = ")...)
	for _, e := range list {
		for _, s := range allSteps() {
			want, _ := applyByHand(e, s)
			got, code := impl.ApplyStep(e, s)
			if got != want || code != impl.OK {
				t.Fatalf("ApplyStep of %q and %v: got %q, %d, want %q", e, s, got, code, want)
			}
		}
	}
}

func TestApplyStepEdges(t *testing.T) {
	cases := [][3]string{
		{"Xa = aX", "X=aX", "Xa = aX"}, {"Xa = aX", "X=", " = "}, {"XY = YX", "X=YX", "XY = YX"}, {"XY = YX", "Z=a", "XY = YX"},
		{"XbX = aY", "X=Y", "Yb = a"}, {"XbX = aZ", "X=Y", "YbY = aZ"}, {"XbX = aY", "Y=XY", "XbX = aXY"}, {"YXbX = YaY", "X=", "b = aY"}, {"YXbX = YaX", "X=Y", "Yb = a"},
		{" = ", "X=aX", " = "}, {"X = X", "X=aX", " = "}, {"XX = ", "X=Y", "YY = "}, {" = XY", "X=", " = Y"}, {" = XY", "Y=", " = X"}, {"aX = bX", "X=", "a = b"},
	}
	for _, c := range cases {
		got, code := impl.ApplyStep(equation(c[0]), step(c[1]))
		same(t, c[0]+" and "+c[1], `"`+strings.Replace(c[2], " = ", `" "`, 1)+`" 0`, got.Left, got.Right, code)
	}
	for _, s := range noSteps() {
		got, code := impl.ApplyStep(equation("X = a"), s)
		same(t, "no step", `{"" ""} 1`, got, code)
	}
	for _, e := range noEquations() {
		got, code := impl.ApplyStep(e, step("X="))
		same(t, "no equation", `{"" ""} 1`, got, code)
	}
}

func TestApplyStepLimit(t *testing.T) {
	twelve, more := strings.Repeat("X", 12), strings.Repeat("aX", 12)
	for _, e := range []impl.Equation{{Left: twelve, Right: "b"}, {Left: "b", Right: twelve}, {Left: twelve, Right: ""}} {
		got, code := impl.ApplyStep(e, step("X=aX"))
		same(t, "just MaxTerm", `"`+strings.Replace(e.Left, twelve, more, 1)+`" "`+strings.Replace(e.Right, twelve, more, 1)+`" 0`, got.Left, got.Right, code)
		e = impl.Equation{Left: strings.Replace(e.Left, twelve, twelve+"Y", 1), Right: strings.Replace(e.Right, twelve, twelve+"Y", 1)}
		got, code = impl.ApplyStep(e, step("X=aX"))
		same(t, "one more than MaxTerm", `{"" ""} 3`, got, code)
		got, code = impl.ApplyStep(e, step("X=YX"))
		same(t, "one more than MaxTerm by an unknown", `{"" ""} 3`, got, code)
		got, code = impl.ApplyStep(e, step("Y=b"))
		same(t, "another unknown", `0`, code)
	}
	just := impl.Equation{Left: strings.Repeat("X", 11) + "bY", Right: "aXY"}
	got, code := impl.ApplyStep(just, step("X=aX"))
	same(t, "23 behind stripping one", `{"XaXaXaXaXaXaXaXaXaXaXb" "aX"} 0`, got, code)
	long := impl.Equation{Left: strings.Repeat("X", 12) + "b", Right: "a" + strings.Repeat("X", 11) + "Y"}
	got, code = impl.ApplyStep(long, step("X=aX"))
	same(t, "25 before stripping one at the beginning", `{"" ""} 3`, got, code)
	wide := impl.Equation{Left: strings.Repeat("Y", 20) + "Xb", Right: strings.Repeat("Y", 20) + "cX"}
	got, code = impl.ApplyStep(wide, step("Y=aY"))
	same(t, "what is stripped first does not count", `{"Xb" "cX"} 0`, got, code)
	got, code = impl.ApplyStep(wide, step("X=cX"))
	same(t, "terms of 22 with a beginning of 20", `{"Xb" "cX"} 0`, got, code)
	most := impl.Equation{Left: strings.Repeat("X", 24), Right: strings.Repeat("a", 24)}
	got, code = impl.ApplyStep(most, step("X=a"))
	same(t, "the longest terms", `{"" ""} 0`, got, code)
	got, code = impl.ApplyStep(most, step("X=aX"))
	same(t, "the longest term doubled", `{"" ""} 3`, got, code)
}

func TestIsSolved(t *testing.T) {
	for _, e := range stepEquations() {
		yes, code := impl.IsSolved(e)
		if yes != isSolvedByHand(e) || code != impl.OK {
			t.Fatalf("IsSolved %q: got %v, %d", e, yes, code)
		}
	}
	long := strings.Repeat("aXbY", 6)
	yes, code := impl.IsSolved(impl.Equation{Left: long, Right: long})
	same(t, "long equal terms", `true 0`, yes, code)
	yes, code = impl.IsSolved(impl.Equation{})
	same(t, "empty terms", `true 0`, yes, code)
	yes, code = impl.IsSolved(impl.Equation{Right: "a"})
	same(t, "one empty term", `false 0`, yes, code)
	for _, e := range noEquations() {
		yes, code = impl.IsSolved(e)
		same(t, "no equation", `false 1`, yes, code)
	}
}

func TestIsQuadratic(t *testing.T) {
	for _, e := range stepEquations() {
		want := true
		for _, x := range []string{"X", "Y", "Z", "W"} {
			want = want && strings.Count(e.Left+e.Right, x) <= 2
		}
		yes, code := impl.IsQuadratic(e)
		if yes != want || code != impl.OK {
			t.Fatalf("IsQuadratic %q: got %v, %d", e, yes, code)
		}
	}
	cases := map[string]string{
		" = ": `true 0`, "X = X": `true 0`, "XX = a": `true 0`, "aaab = bbb": `true 0`, "XYZW = WZYX": `true 0`, "XX = X": `false 0`, "XXX = ": `false 0`, " = WWW": `false 0`,
		"aWb = WaW": `false 0`, "XYX = YXa": `false 0`, "ZXZ = XYYZ": `false 0`, "XXa = XXb": `false 0`, "XXYY = ZZWW": `true 0`,
	}
	for text, want := range cases {
		yes, code := impl.IsQuadratic(equation(text))
		same(t, "IsQuadratic "+text, want, yes, code)
	}
	for _, e := range noEquations() {
		yes, code := impl.IsQuadratic(e)
		same(t, "no equation", `false 1`, yes, code)
	}
}

// valuesBehind returns the values that are left behind a step, and false if the step is not right for values.
func valuesBehind(s impl.Step, v []string) ([]string, bool) {
	front := strings.TrimSuffix(s.By, "XYZW"[s.Unknown:s.Unknown+1])
	rest, ok := strings.CutPrefix(v[s.Unknown], putIn(front, v))
	if front == s.By && rest != "" {
		return nil, false
	}
	v = slices.Clone(v)
	v[s.Unknown] = rest
	return v, ok
}

// TestStepsKeepSolutions puts values into equations before and behind steps: each solution is one behind some step.
func TestStepsKeepSolutions(t *testing.T) {
	small := valuesUpTo("XY", 3)
	for _, e := range append(equations(textsUpTo("aXY", 2)), system("aXbY = YbXa", "XXY = YXX", "XbXa = aYbX", "XaX = aXY", "aXYb = cYX", "XXX = YY")...) {
		kept := make([]bool, len(small))
		for _, s := range stepsByHand(e) {
			to, code := impl.ApplyStep(e, s)
			for i, v := range small {
				rest, ok := valuesBehind(s, v)
				if ok && (code != impl.OK || solves([]impl.Equation{to}, rest) != solves([]impl.Equation{e}, v)) {
					t.Fatalf("%q behind %v is %q, %d, and %q becomes %q", e, s, to, code, v, rest)
				}
				kept[i] = kept[i] || ok
			}
		}
		for i, v := range small {
			if !kept[i] && !isSolvedByHand(e) && solves([]impl.Equation{e}, v) {
				t.Fatalf("no step of %q keeps %q", e, v)
			}
		}
	}
}
