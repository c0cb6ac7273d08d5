package tests

import (
	"slices"
	"strings"
	"testing"

	"loop.example/g01143/impl"
)

// Graphs of just MaxNodes nodes, with a solution and without one, and of one node more.
const (
	fullSolvable  = "XaXaaZ = ZYaY"
	fullRefused   = "ZYW = bbXXWYbZb"
	overSolvable  = "YXWX = ZWYZ"
	overRefused   = "YZWbWYZ = XX"
	farTooManyFor = "XYZW = WaYbZcXd"
)

// tooLongSolvable has a step that cannot be applied, behind others that lead to a solved node.
var tooLongSolvable = impl.Equation{Left: strings.Repeat("X", 13) + "Y", Right: "Y" + strings.Repeat("X", 13)}

// limitedEquations are equations of which the graph is too great, or a step cannot be applied.
func limitedEquations() []impl.Equation {
	thirteen := strings.Repeat("X", 13)
	list := append(system(overSolvable, overRefused, farTooManyFor), tooLongSolvable)
	return append(list, impl.Equation{Left: thirteen, Right: strings.Repeat("a", 13)}, impl.Equation{Left: "b", Right: thirteen}, impl.Equation{Left: "aXcb", Right: "aX" + thirteen + "b"},
		impl.Equation{Left: strings.Repeat("XY", 12), Right: strings.Repeat("Z", 24)})
}

// sameGraphs fails the test unless two graphs are equal.
func sameGraphs(t *testing.T, name string, got, want impl.StepGraph) {
	t.Helper()
	if !slices.Equal(got.Nodes, want.Nodes) || !slices.EqualFunc(got.Next, want.Next, slices.Equal[[]int64]) {
		t.Errorf("%s: got %q %v, want %q %v", name, got.Nodes, got.Next, want.Nodes, want.Next)
	}
}

func TestGraphOf(t *testing.T) {
	for _, e := range append(stepEquations(), system(fullSolvable, fullRefused, overSolvable, overRefused)...) {
		want, ok := graphByHand(e, 300)
		wantCode := int64(impl.OK)
		if !ok {
			wantCode = impl.ErrLimit
		}
		got, code := impl.GraphOf(e)
		sameGraphs(t, "GraphOf "+e.Left+" = "+e.Right, got, want)
		if code != wantCode {
			t.Errorf("GraphOf %q: got %d, want %d", e, code, wantCode)
		}
	}
}

func TestGraphOfCases(t *testing.T) {
	cases := [][2]string{
		{" = ", `{[{ }] [[]]} 0`}, {"XaY = XaY", `{[{ }] [[]]} 0`}, {"a = b", `{[{a b}] [[]]} 0`}, {"Xa = Xb", `{[{a b}] [[]]} 0`}, {" = a", `{[{ a}] [[]]} 0`}, {"aX = ", `{[{aX }] [[]]} 0`},
		{"X = ", `{[{X } { }] [[1] []]} 0`}, {" = XY", `{[{ XY} { Y} { }] [[1] [2] []]} 0`}, {"XaX = ", `{[{XaX } {a }] [[1] []]} 0`},
		{"Xa = aX", `{[{Xa aX} { }] [[1 0] []]} 0`}, {"bXac = baXc", `{[{Xa aX} { }] [[1 0] []]} 0`}, {"Xa = bX", `{[{Xa bX} {a b}] [[1 0] []]} 0`},
		{"XY = YX", `{[{XY YX} { }] [[1 1 1 0 0] []]} 0`}, {"X = Y", `{[{X Y} { Y} {X } { }] [[1 2 3 2 1] [3] [3] []]} 0`},
		{"aX = Y", `{[{aX Y} {aX } {X Y} { Y} {X } { }] [[1 2] [] [3 4 5 4 3] [5] [5] []]} 0`},
		{"X = aY", `{[{X aY} { aY} {X Y} { Y} {X } { }] [[1 2] [] [3 4 5 4 3] [5] [5] []]} 0`},
	}
	for _, c := range cases {
		g, code := impl.GraphOf(equation(c[0]))
		same(t, "GraphOf "+c[0], c[1], g, code)
	}
}

// TestGraphLimits looks at graphs of just MaxNodes nodes and of more.
func TestGraphLimits(t *testing.T) {
	for _, text := range []string{fullSolvable, fullRefused} {
		g, code := impl.GraphOf(equation(text))
		same(t, "a graph of just MaxNodes nodes: "+text, `300 300 0`, len(g.Nodes), len(g.Next), code)
	}
	for _, text := range []string{overSolvable, overRefused} {
		if g, ok := graphByHand(equation(text), 400); !ok || len(g.Nodes) != 301 {
			t.Errorf("%s has %d nodes", text, len(g.Nodes))
		}
	}
	for _, e := range limitedEquations() {
		name := e.Left + " = " + e.Right
		g, code := impl.GraphOf(e)
		same(t, "GraphOf "+name, `{[] []} 3`, g, code)
		yes, code := impl.IsSolvable(e)
		same(t, "IsSolvable "+name, `false 3`, yes, code)
		way, code := impl.ShortestWay(e)
		same(t, "ShortestWay "+name, `[] 3`, way, code)
		nodes, code := impl.RefusalOf(e)
		same(t, "RefusalOf "+name, `[] 3`, nodes, code)
		for _, length := range []int64{0, 1, 20} {
			count, code := impl.WayCount(e, length)
			same(t, "WayCount "+name, `0 3`, count, code)
		}
	}
}

// TestGraphLimitBehindSolved makes sure that the limited graphs have solved nodes that are met early.
func TestGraphLimitBehindSolved(t *testing.T) {
	for _, e := range append(system(overSolvable), tooLongSolvable) {
		short := 0
		for length := range 4 {
			short += len(waysByHand(e, length))
		}
		if short == 0 {
			t.Errorf("%q has no short way", e)
		}
	}
}

func TestGraphsOfNoEquations(t *testing.T) {
	for _, e := range noEquations() {
		g, code := impl.GraphOf(e)
		same(t, "GraphOf", `{[] []} 1`, g, code)
		yes, code := impl.IsSolvable(e)
		same(t, "IsSolvable", `false 1`, yes, code)
		way, code := impl.ShortestWay(e)
		same(t, "ShortestWay", `[] 1`, way, code)
		nodes, code := impl.RefusalOf(e)
		same(t, "RefusalOf", `[] 1`, nodes, code)
		for _, length := range []int64{0, 20, 21, -1} {
			count, code := impl.WayCount(e, length)
			same(t, "WayCount", `0 1`, count, code)
		}
	}
}

func TestSameGraph(t *testing.T) {
	graphs := []impl.StepGraph{
		{}, {Nodes: system(" = ")}, {Nodes: system(" = "), Next: [][]int64{{}}}, {Next: [][]int64{{}}}, {Next: [][]int64{{}, {}}}, {Nodes: system("a = ")}, {Nodes: system(" = a")},
		{Nodes: system(" = ", "X = a")}, {Nodes: system("X = a", " = ")}, {Nodes: system("e = f"), Next: [][]int64{{-1 << 63}, {1 << 62}}}, {Next: [][]int64{{0}}}, {Next: [][]int64{{0, 0}}}, {Next: [][]int64{{0}, {0}}}, {Next: [][]int64{{1}}},
	}
	for _, text := range []string{"XY = YX", "Xa = aX", "Xa = bX", "aX = Y", "X = aY"} {
		g, _ := impl.GraphOf(equation(text))
		graphs = append(graphs, g)
	}
	for i, g := range graphs {
		for k, h := range graphs {
			copied := impl.StepGraph{Nodes: slices.Clone(h.Nodes)}
			for _, next := range h.Next {
				copied.Next = append(copied.Next, slices.Clone(next))
			}
			if impl.SameGraph(g, copied) != (i == k) {
				t.Errorf("SameGraph of %v and %v is %v", g, h, i != k)
			}
		}
	}
	empty := impl.StepGraph{Nodes: []impl.Equation{}, Next: [][]int64{}}
	one, other := impl.StepGraph{Next: [][]int64{nil}}, impl.StepGraph{Nodes: []impl.Equation{}, Next: [][]int64{{}}}
	if !impl.SameGraph(empty, impl.StepGraph{}) || !impl.SameGraph(impl.StepGraph{}, empty) || !impl.SameGraph(one, other) {
		t.Error("nil and empty lists are taken for different ones")
	}
}

// TestDecided looks for solutions of equations that have none, and puts the values of ways into the others.
func TestDecided(t *testing.T) {
	small := valuesUpTo("XY", 3)
	for _, e := range equations(textsUpTo("abXY", 2)) {
		solvable, code := impl.IsSolvable(e)
		if code != impl.OK {
			t.Fatalf("IsSolvable %q: %d", e, code)
		}
		if !solvable {
			for _, v := range small {
				if solves([]impl.Equation{e}, v) {
					t.Fatalf("%q is not solvable, but %q solves it", e, v)
				}
			}
		}
	}
	for _, e := range append(stepEquations(), system(fullSolvable, fullRefused)...) {
		solvable, code := impl.IsSolvable(e)
		g, ok := graphByHand(e, 300)
		if !ok {
			same(t, "IsSolvable "+e.Left+" = "+e.Right, `false 3`, solvable, code)
			continue
		}
		if want := slices.Contains(g.Nodes, impl.Equation{}); solvable != want || code != impl.OK {
			t.Fatalf("IsSolvable %q: got %v, %d", e, solvable, code)
		}
		if _, code := impl.LeastSolution([]impl.Equation{e}, 6); code == impl.OK && !solvable {
			t.Fatalf("%q has a solution, but is not solvable", e)
		}
		if quadratic, _ := impl.IsQuadratic(e); quadratic {
			for _, node := range g.Nodes {
				if len(node.Left+node.Right) > len(e.Left+e.Right) {
					t.Fatalf("%q has a longer node %q", e, node)
				}
			}
		}
	}
}

func TestIsSolvableCases(t *testing.T) {
	cases := map[string]string{
		" = ": `true 0`, "X = X": `true 0`, "a = ": `false 0`, " = X": `true 0`, " = Xb": `false 0`, "Xa = aX": `true 0`, "Xa = bX": `false 0`, "XX = a": `false 0`, "XX = aa": `true 0`,
		"XaX = YbY": `false 0`, "XaXbY = YbXaX": `false 3`, "XabY = YbaX": `true 0`, "aXX = XXb": `false 3`, "abXY = XYba": `true 0`, fullSolvable: `true 0`, fullRefused: `false 0`,
	}
	for text, want := range cases {
		yes, code := impl.IsSolvable(equation(text))
		same(t, "IsSolvable "+text, want, yes, code)
	}
}

func TestRefusals(t *testing.T) {
	for _, e := range append(stepEquations(), system(fullSolvable, fullRefused)...) {
		g, ok := graphByHand(e, 300)
		nodes, code := impl.RefusalOf(e)
		shown, shownCode := impl.CheckRefusal(e, nodes)
		switch {
		case !ok:
			same(t, "RefusalOf "+e.Left+" = "+e.Right, `[] 3`, nodes, code)
		case slices.Contains(g.Nodes, impl.Equation{}):
			same(t, "RefusalOf "+e.Left+" = "+e.Right, `[] 4`, nodes, code)
			shown, shownCode = impl.CheckRefusal(e, g.Nodes)
			same(t, "CheckRefusal of the graph of "+e.Left+" = "+e.Right, `false 0`, shown, shownCode)
		default:
			if !slices.Equal(nodes, g.Nodes) || code != impl.OK || !shown || shownCode != impl.OK {
				t.Errorf("RefusalOf %q: got %q, %d, which shows it: %v, %d", e, nodes, code, shown, shownCode)
			}
			checkPartsOfRefusal(t, e, nodes)
		}
	}
}

// checkPartsOfRefusal takes one node away from a refusal, which must not show anything then: each node was met behind others.
func checkPartsOfRefusal(t *testing.T, e impl.Equation, nodes []impl.Equation) {
	t.Helper()
	for i := range nodes[:min(len(nodes), 8)] {
		shown, code := impl.CheckRefusal(e, slices.Delete(slices.Clone(nodes), i, i+1))
		if shown || code != impl.OK {
			t.Errorf("%q without the node %d is taken for a refusal: %v, %d", nodes, i, shown, code)
		}
	}
}

func TestCheckRefusal(t *testing.T) {
	e := equation("Xa = bX")
	cases := []struct {
		name  string
		e     impl.Equation
		nodes []impl.Equation
		want  string
	}{
		{"the refusal", e, system("Xa = bX", "a = b"), `true 0`},
		{"in another order", e, system("a = b", "Xa = bX"), `true 0`},
		{"twice", e, system("Xa = bX", "a = b", "a = b", "Xa = bX"), `true 0`},
		{"others as well", e, system("aY = bW", "Xa = bX", "dXY = ", "a = b", " = a"), `true 0`},
		{"an equation that is not stripped", equation("cXac = cbXc"), system("Xa = bX", "a = b"), `true 0`},
		{"nothing", e, nil, `false 0`},
		{"nothing for a solved one", equation(" = "), nil, `false 0`},
		{"without the equation", e, system("a = b"), `false 0`},
		{"without what steps lead to", e, system("Xa = bX"), `false 0`},
		{"another equation", equation("Xb = aX"), system("Xa = bX", "a = b"), `false 0`},
		{"the equation turned", equation("bX = Xa"), system("Xa = bX", "a = b"), `false 0`},
		{"a node that is not stripped", e, system("Xa = bX", "a = b", "ca = cb"), `false 0`},
		{"an end that is not stripped", e, system("Xa = bX", "a = b", "ac = bc"), `false 0`},
		{"the equation not stripped", equation("cXa = cbX"), system("cXa = cbX", "Xa = bX", "a = b"), `false 0`},
		{"only not stripped", equation("ca = cb"), system("ca = cb"), `false 0`},
		{"a solved one", e, system("Xa = bX", "a = b", " = "), `false 0`},
		{"a solved one that is not stripped", e, system("Xa = bX", "a = b", "X = X"), `false 0`},
		{"only a solved one", equation(" = "), system(" = "), `false 0`},
		{"a solved equation", equation("aX = aX"), system("Xa = bX", "a = b"), `false 0`},
		{"a solved equation and node", equation("aX = aX"), system("aX = aX"), `false 0`},
		{"an equation with a solution", equation("Xa = aX"), system("Xa = aX"), `false 0`},
		{"an equation without steps", equation("aX = b"), system("aX = b"), `true 0`},
		{"one empty term", equation("XaY = "), system("XaY = ", "aY = "), `true 0`},
		{"one empty term with a step that leads out", equation("XaY = "), system("XaY = "), `false 0`},
		{"others lead out", e, system("Xa = bX", "a = b", "Y = a"), `false 0`},
	}
	for _, c := range cases {
		shown, code := impl.CheckRefusal(c.e, c.nodes)
		same(t, c.name, c.want, shown, code)
	}
}

func TestCheckRefusalErrors(t *testing.T) {
	e, long := equation("Xa = bX"), impl.Equation{Left: strings.Repeat("X", 13), Right: "a"}
	fillers := func(n int) []impl.Equation {
		list := system("Xa = bX", "a = b")
		for _, w := range textsUpTo("abcd", 5)[1 : n-1] {
			list = append(list, impl.Equation{Left: w})
		}
		return list
	}
	bad := impl.Equation{Left: "e"}
	cases := []struct {
		name  string
		e     impl.Equation
		nodes []impl.Equation
		want  string
	}{
		{"just MaxNodes", e, fillers(300), `true 0`},
		{"one more", e, fillers(301), `false 2`},
		{"one twice, one more", e, append(fillers(300), e), `false 2`},
		{"one more, and an invalid one", e, append(fillers(300), bad), `false 1`},
		{"more, and an invalid equation", bad, fillers(400), `false 1`},
		{"a step that cannot be applied", long, []impl.Equation{long}, `false 3`},
		{"one of another node", e, append(fillers(10), long), `false 3`},
		{"one of another node of just MaxNodes", e, append(fillers(299), long), `false 3`},
		{"one of another node of too many", e, append(fillers(300), long), `false 2`},
		{"one of another node, and an invalid one", e, append(fillers(10), long, bad), `false 1`},
		{"one in front of the right ones", e, append([]impl.Equation{long}, fillers(3)...), `false 3`},
		{"one behind a list without the equation", e, append(system("a = b"), long), `false 3`},
		{"one behind one that is not stripped", e, append(system("ca = cb"), long), `false 3`},
		{"one behind a solved one", e, append(system(" = "), long), `false 3`},
		{"one behind steps that lead out", e, append(system("Xa = bX"), long), `false 3`},
		{"one that is not stripped", e, []impl.Equation{{Left: "c" + long.Left, Right: "ca"}}, `false 3`},
		{"an equation that is not among the nodes", long, fillers(3), `false 0`},
	}
	for _, c := range cases {
		shown, code := impl.CheckRefusal(c.e, c.nodes)
		same(t, c.name, c.want, shown, code)
	}
	for _, bad := range noEquations() {
		shown, code := impl.CheckRefusal(bad, fillers(3))
		same(t, "no equation", `false 1`, shown, code)
		shown, code = impl.CheckRefusal(e, append(fillers(3), bad))
		same(t, "an invalid node", `false 1`, shown, code)
		shown, code = impl.CheckRefusal(e, append([]impl.Equation{bad}, fillers(3)...))
		same(t, "an invalid first node", `false 1`, shown, code)
	}
	shown, code := impl.CheckRefusal(e, make([]impl.Equation, 100000))
	same(t, "very many", `false 2`, shown, code)
}
