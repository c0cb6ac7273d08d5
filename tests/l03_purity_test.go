package tests

import (
	"fmt"
	"reflect"
	"slices"
	"strings"
	"testing"

	"loop.example/g01143/impl"
)

// threeCalls are calls of chapter 3, each of which gives its results as a list.
func threeCalls(e impl.Equation, s impl.Step, way []impl.Step, nodes []impl.Equation, text string, words []string, n int64) map[string]func() []any {
	return map[string]func() []any{
		"StepsOf":        func() []any { a, b := impl.StepsOf(e); return []any{a, b} },
		"StepText":       func() []any { return []any{impl.StepText(s)} },
		"ReadStep":       func() []any { a, b := impl.ReadStep(text); return []any{a, b} },
		"ReadStep again": func() []any { a, b := impl.ReadStep(impl.StepText(s)); return []any{a, b} },
		"ApplyStep":      func() []any { a, b := impl.ApplyStep(e, s); return []any{a, b} },
		"IsSolved":       func() []any { a, b := impl.IsSolved(e); return []any{a, b} },
		"IsQuadratic":    func() []any { a, b := impl.IsQuadratic(e); return []any{a, b} },
		"GraphOf":        func() []any { a, b := impl.GraphOf(e); return []any{a, b} },
		"SameGraph":      func() []any { g, _ := impl.GraphOf(e); return []any{impl.SameGraph(g, g)} },
		"SameGraph of two": func() []any {
			return []any{impl.SameGraph(impl.StepGraph{Nodes: nodes}, impl.StepGraph{Nodes: nodes, Next: [][]int64{{n}}})}
		},
		"IsSolvable":   func() []any { a, b := impl.IsSolvable(e); return []any{a, b} },
		"ShortestWay":  func() []any { a, b := impl.ShortestWay(e); return []any{a, b} },
		"CheckWay":     func() []any { a, b := impl.CheckWay(e, way); return []any{a, b} },
		"ValuesOfWay":  func() []any { a, b := impl.ValuesOfWay(way); return []any{a, b} },
		"WayOfValues":  func() []any { a, b := impl.WayOfValues(e, words); return []any{a, b} },
		"RefusalOf":    func() []any { a, b := impl.RefusalOf(e); return []any{a, b} },
		"CheckRefusal": func() []any { a, b := impl.CheckRefusal(e, nodes); return []any{a, b} },
		"WayCount":     func() []any { a, b := impl.WayCount(e, n); return []any{a, b} },
	}
}

// TestThreePure calls each function of chapter 3 twice, spoiling the first results, and looks at the arguments with their unused capacity.
func TestThreePure(t *testing.T) {
	list := append(system("Xa = aX", "Xa = bX", "XY = YX", "XX = YZYZ", "X = aab", " = ", "aX = aX", " = b", "XYZ = ZYX", "XXXXX = aaa", overSolvable, fullRefused), tooLongSolvable, impl.Equation{Left: "e"})
	ways := []string{"", "X=", "X=aX X=", "X=YX X=Y", "X=X", "X=aX X=aX X=bX X=", times(61, "X=", "")}
	for i, e := range list {
		for k, text := range ways {
			g, _ := graphByHand(list[i%9], 300)
			way, wayBack := withSpare(steps(text), steps("W=dW Z=c")...)
			nodes, nodesBack := withSpare(g.Nodes, equation("Xa = bX"), equation("a = b"))
			v, vBack := withSpare(values("aab"[:k%4]), "x", "y", "z")
			was := []any{slices.Clone(wayBack), slices.Clone(nodesBack), slices.Clone(vBack)}
			for name, call := range threeCalls(e, wayBack[0], way, nodes, text, v, int64(k)) {
				checkRepeated(t, fmt.Sprintf("%s of %q, %q", name, e, text), call)
			}
			if !reflect.DeepEqual([]any{wayBack, nodesBack, vBack}, was) {
				t.Fatalf("of %q, %q, %q, %q: an argument is changed", e, text, nodes, v)
			}
		}
	}
}

// TestThreeGraphsArePure looks at two graphs that are compared.
func TestThreeGraphsArePure(t *testing.T) {
	g, _ := impl.GraphOf(equation("XaY = YbX"))
	h, _ := impl.GraphOf(equation("XaY = YbX"))
	was := fmt.Sprintf("%#v", g)
	if !impl.SameGraph(g, h) || fmt.Sprintf("%#v", g) != was || fmt.Sprintf("%#v", h) != was {
		t.Errorf("graphs are changed: %v, %v", g, h)
	}
}

// TestThreeApart looks at the lists of one result, which must not share memory.
func TestThreeApart(t *testing.T) {
	g, _ := impl.GraphOf(equation("XaY = YbX"))
	for i := range g.Next {
		want := fmt.Sprint(g.Nodes, g.Next[i+1:])
		spoil([]any{append(g.Next[i], 5), g.Next[i]})
		if got := fmt.Sprint(g.Nodes, g.Next[i+1:]); got != want {
			t.Errorf("lists share memory: %s became %s", want, got)
		}
	}
}

// TestThreeReturns gives all functions of chapter 3 very great arguments, and strange ones.
func TestThreeReturns(t *testing.T) {
	long, very := strings.Repeat("X", 24), strings.Repeat("a", 1000000)
	list := append(limitedEquations(), impl.Equation{Left: long, Right: long}, impl.Equation{Left: strings.Repeat("XYZW", 6), Right: strings.Repeat("WZYX", 6)}, impl.Equation{Left: "abcd", Right: very})
	wayLists := [][]impl.Step{nil, make([]impl.Step, 300000), {{Unknown: -1 << 63, By: very}}, {{Unknown: 1<<63 - 1}}, steps(times(30, "X=YX Y=XY", ""))}
	nodeLists := [][]impl.Equation{nil, make([]impl.Equation, 300000), list, {{Left: very, Right: very}}}
	texts := []string{"", "\x00", very, strings.Repeat("=", 1000000), "X=" + very, very + "="}
	for i, e := range list {
		for k, way := range wayLists {
			for _, n := range []int64{-1 << 63, 20, 1<<63 - 1} {
				s := impl.Step{Unknown: n, By: texts[k]}
				for name, call := range threeCalls(e, s, way, nodeLists[(i+k)%len(nodeLists)], texts[(i+k)%len(texts)], []string{"", very, "a", "b"}, n) {
					if len(call()) == 0 {
						t.Errorf("%s returns nothing", name)
					}
				}
			}
		}
	}
}
