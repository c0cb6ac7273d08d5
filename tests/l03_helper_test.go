package tests

import (
	"slices"
	"strings"

	"loop.example/g01143/impl"
)

// step returns a step, valid or not, from its text.
func step(text string) impl.Step {
	x, by, found := strings.Cut(text, "=")
	if !found || len(x) != 1 {
		panic("no step: " + text)
	}
	return impl.Step{Unknown: int64(strings.Index("XYZW", x)), By: by}
}

// steps returns steps from their texts, which have blanks between them.
func steps(texts string) []impl.Step {
	var list []impl.Step
	for _, text := range strings.Fields(texts) {
		list = append(list, step(text))
	}
	return list
}

// times returns a text of steps in which one text stands so many times, and others behind it.
func times(n int, text, others string) string {
	return strings.Repeat(text+" ", n) + others
}

// textOf returns the text of steps, with blanks between them.
func textOf(list []impl.Step) string {
	var texts []string
	for _, s := range list {
		texts = append(texts, "XYZW"[s.Unknown:s.Unknown+1]+"="+s.By)
	}
	return strings.Join(texts, " ")
}

// noSteps are steps that are not valid.
func noSteps() []impl.Step {
	list := steps("X=X X=XX X=YZ X=YY X=ab X=aa X=Xa X=XY X=aY X=aYX X=aaX X=abX X=XXX X=YXX X=YaX Y=Y Y=YX Z=ZZ W=W W=XY W=Wa W=dWd X=e X=eX X=x X=ax X==")
	for _, unknown := range []int64{-1, 4, 5, 88, -1 << 63, 1<<63 - 1} {
		list = append(list, impl.Step{Unknown: unknown}, impl.Step{Unknown: unknown, By: "a"}, impl.Step{Unknown: unknown, By: "X"})
	}
	for _, by := range []string{" ", "X ", " X", "a X", "\x00", "\xff", "é", "éX", "\n", strings.Repeat("X", 1000000), strings.Repeat("a", 999999) + "X"} {
		list = append(list, impl.Step{By: by})
	}
	return list
}

// stepsByHand returns the steps of an equation, as the document lists them.
func stepsByHand(e impl.Equation) []impl.Step {
	left, right := stripByHand(e.Left, e.Right)
	if left == "" || right == "" {
		if all := left + right; all != "" && all[0] < 'a' {
			return steps(all[:1] + "=")
		}
		return nil
	}
	x, y := left[:1], right[:1]
	switch {
	case x >= "a" && y >= "a":
		return nil
	case y >= "a":
		return steps(x + "= " + x + "=" + y + x)
	case x >= "a":
		return steps(y + "= " + y + "=" + x + y)
	}
	return steps(x + "= " + y + "= " + x + "=" + y + " " + x + "=" + y + x + " " + y + "=" + x + y)
}

// applyByHand returns what comes of a step, and false if a term would be too long.
func applyByHand(e impl.Equation, s impl.Step) (impl.Equation, bool) {
	left, right := stripByHand(e.Left, e.Right)
	replaced := func(term string) string {
		result := ""
		for _, c := range term {
			if string(c) == "XYZW"[s.Unknown:s.Unknown+1] {
				result += s.By
			} else {
				result += string(c)
			}
		}
		return result
	}
	left, right = replaced(left), replaced(right)
	if len(left) > 24 || len(right) > 24 {
		return impl.Equation{}, false
	}
	left, right = stripByHand(left, right)
	return impl.Equation{Left: left, Right: right}, true
}

// graphByHand returns the graph of an equation, and false if it is too great or a term is too long.
func graphByHand(e impl.Equation, most int) (impl.StepGraph, bool) {
	left, right := stripByHand(e.Left, e.Right)
	g := impl.StepGraph{Nodes: []impl.Equation{{Left: left, Right: right}}}
	for i := 0; i < len(g.Nodes); i++ {
		var next []int64
		for _, s := range stepsByHand(g.Nodes[i]) {
			to, ok := applyByHand(g.Nodes[i], s)
			if !ok {
				return impl.StepGraph{}, false
			}
			if !slices.Contains(g.Nodes, to) {
				g.Nodes = append(g.Nodes, to)
			}
			if len(g.Nodes) > most {
				return impl.StepGraph{}, false
			}
			next = append(next, int64(slices.Index(g.Nodes, to)))
		}
		g.Next = append(g.Next, next)
	}
	return g, true
}

// isSolvedByHand reports whether an equation has equal terms.
func isSolvedByHand(e impl.Equation) bool {
	return e.Left == e.Right
}

// waysByHand returns all ways of an equation with just so many steps, in the order of steps.
func waysByHand(e impl.Equation, length int) []string {
	if length == 0 {
		if isSolvedByHand(e) {
			return []string{""}
		}
		return nil
	}
	var list []string
	for _, s := range stepsByHand(e) {
		to, ok := applyByHand(e, s)
		if !ok {
			continue
		}
		for _, rest := range waysByHand(to, length-1) {
			list = append(list, strings.TrimSuffix(textOf([]impl.Step{s})+" "+rest, " "))
		}
	}
	return list
}

// wayByHand returns the way that goes along a solution, and false if a term would be too long.
func wayByHand(e impl.Equation, solution []string) (string, bool) {
	v := map[string]string{}
	for i, w := range solution {
		v["XYZW"[i:i+1]] = w
	}
	e.Left, e.Right = stripByHand(e.Left, e.Right)
	text := ""
	for !isSolvedByHand(e) {
		x, y := (e.Left + " ")[:1], (e.Right + " ")[:1]
		unknownX, unknownY := x > " " && x < "a", y > " " && y < "a"
		taken := ""
		switch {
		case unknownX && v[x] == "":
			taken = x + "="
		case unknownY && v[y] == "":
			taken = y + "="
		case unknownX && unknownY && v[x] == v[y]:
			taken = x + "=" + y
			v[x] = ""
		case unknownX && unknownY && len(v[x]) > len(v[y]):
			taken = x + "=" + y + x
			v[x] = v[x][len(v[y]):]
		case unknownX && unknownY:
			taken = y + "=" + x + y
			v[y] = v[y][len(v[x]):]
		case unknownX:
			taken = x + "=" + y + x
			v[x] = v[x][1:]
		default:
			taken = y + "=" + x + y
			v[y] = v[y][1:]
		}
		to, ok := applyByHand(e, step(taken))
		if !ok {
			return "", false
		}
		e = to
		text += taken + " "
	}
	return strings.TrimSuffix(text, " "), true
}

// stepEquations are small equations of all kinds, and some that are not so small.
func stepEquations() []impl.Equation {
	list := equations(textsUpTo("aXY", 3))
	list = append(list, equations(textsUpTo("abZW", 2))...)
	return append(list, system(
		"Xab = baX", "Xa = bX", "XY = YX", "XYZ = ZYX", "XYZW = WZYX", "aXbY = YbXa", "XaY = YbX", "XX = YZYZ", "XaXb = bYaY", "XYZa = aZYX",
		"XX = aXYb", "XXX = aXYXb", "XaXbX = YaYbY", "XXY = YXX", "XYX = ZaZ", "abXY = XYba", "cXdY = YdXc", "ZZaa = XbXb", "WaWb = bWaW", "XYXY = YXYX", "ZXW = WYZ",
	)...)
}
