package tests

import (
	"fmt"
	"strings"
	"testing"

	"loop.example/g01143/impl"
)

// fiveCalls are calls of chapter 5, each of which gives its results as a list.
func fiveCalls(e impl.Equation, list, apart []impl.Equation, b impl.Bounds, nodes []impl.Held, words []string, w string, k, n int64) map[string]func() []any {
	h := impl.Held{Equation: e, Maps: []int64{k, n, k, n}}
	if len(nodes) > 0 {
		h = nodes[0]
	}
	return map[string]func() []any{
		"ValidBounds":      func() []any { return []any{impl.ValidBounds(b)} },
		"SameBounds":       func() []any { return []any{impl.SameBounds(b, b), impl.SameBounds(b, parity())} },
		"MapOf":            func() []any { a, c := impl.MapOf(b, w); return []any{a, c} },
		"MapsOf":           func() []any { a, c := impl.MapsOf(b); return []any{a, c} },
		"MapProduct":       func() []any { a, c := impl.MapProduct(b, k, n); return []any{a, c} },
		"Allows":           func() []any { a, c := impl.Allows(b, k, w); return []any{a, c} },
		"FirstAllowed":     func() []any { a, c := impl.FirstAllowed(b, k); return []any{a, c} },
		"CountAllowed":     func() []any { a, c := impl.CountAllowed(b, k, n); return []any{a, c} },
		"HoldsWithin":      func() []any { a, c := impl.HoldsWithin(list, b, words); return []any{a, c} },
		"CountWithin":      func() []any { a, c := impl.CountWithin(list, b, n); return []any{a, c} },
		"LeastWithin":      func() []any { a, c := impl.LeastWithin(list, b, n); return []any{a, c} },
		"HoldsApart":       func() []any { a, c := impl.HoldsApart(list, apart, words); return []any{a, c} },
		"LeastApart":       func() []any { a, c := impl.LeastApart(list, apart, n); return []any{a, c} },
		"HeldStarts":       func() []any { a, c := impl.HeldStarts(e, b); return []any{a, c} },
		"HeldNext":         func() []any { a, c := impl.HeldNext(h, b); return []any{a, c} },
		"IsSolvableWithin": func() []any { a, c := impl.IsSolvableWithin(e, b); return []any{a, c} },
		"SolutionWithin":   func() []any { a, c := impl.SolutionWithin(e, b); return []any{a, c} },
		"HeldNodes":        func() []any { a, c := impl.HeldNodes(e, b); return []any{a, c} },
		"CheckHeld":        func() []any { a, c := impl.CheckHeld(e, b, nodes); return []any{a, c} },
	}
}

// spareBounds returns a copy of bounds whose lists have unused capacity, and a text of all that is in it.
func spareBounds(b impl.Bounds) (impl.Bounds, func() string) {
	var lists [][]int64
	spare := func(from [][]int64) [][]int64 {
		var rows [][]int64
		for _, row := range from {
			own, back := withSpare(row, 7, -7)
			rows, lists = append(rows, own), append(lists, back)
		}
		own, back := withSpare(rows, []int64{5}, nil)
		lists = append(lists, back...)
		return own
	}
	c := impl.Bounds{Start: b.Start, Next: spare(b.Next), Ends: spare(b.Ends)}
	return c, func() string { return fmt.Sprint(c, lists) }
}

// spareNodes returns copies of held equations with unused capacity, and a text of all that is in it.
func spareNodes(nodes []impl.Held) ([]impl.Held, func() string) {
	var copies []impl.Held
	var maps [][]int64
	for _, h := range nodes {
		own, back := withSpare(h.Maps, 7, -7)
		copies, maps = append(copies, impl.Held{Equation: h.Equation, Maps: own}), append(maps, back)
	}
	own, back := withSpare(copies, held("X = a", 0), held("X = b", 1))
	return own, func() string { return fmt.Sprint(back, maps) }
}

// TestFivePure calls each function of chapter 5 twice, spoiling the first results, and looks at the arguments with their unused capacity.
func TestFivePure(t *testing.T) {
	list := system("XaY = YbX", "Xa = aX", "XYa = YX", "X = X", "aXb = aYb", "XY = YX", " = ", "XXX = a", "X = aa", "XYZW = a")
	all := append(fewBounds(), badBounds()[4:12]...)
	all = append(all, bounds(3, overMaps, "0123 1 02 123"), turning("3 2 1 0"))
	for i, e := range list {
		for k, b := range all {
			given, boundsText := spareBounds(b)
			g, _ := impl.HeldStarts(e, b)
			if i%2 == 0 {
				g, _ = impl.HeldNodes(e, b)
			}
			nodes, nodesText := spareNodes(g[:min(len(g), 20)])
			systems, systemsBack := withSpare([]impl.Equation{e, list[k%len(list)]}, equation("Xa = bX"), equation("a = b"))
			apart, apartBack := withSpare(list[(i+k)%9:(i+k)%9+1], equation("Xa = bX"))
			words, wordsBack := withSpare(values("ab"[:k%3], "a"), "x", "y")
			was := func() string { return fmt.Sprint(boundsText(), nodesText(), systemsBack, apartBack, wordsBack) }
			before := was()
			for name, call := range fiveCalls(e, systems, apart, given, nodes, words, "abba"[:i%5], int64(k%6-1), int64((i+k)%9-1)) {
				checkRepeated(t, fmt.Sprintf("%s of %q, %v", name, e, b), call)
			}
			if was() != before {
				t.Fatalf("of %q, %v: an argument is changed", e, b)
			}
		}
	}
}

// TestFiveApart looks at the lists of one result, which must not share memory.
func TestFiveApart(t *testing.T) {
	e, b := equation("XaY = YbX"), parity()
	starts, _ := impl.HeldStarts(e, b)
	next, _ := impl.HeldNext(starts[1], b)
	nodes, _ := impl.HeldNodes(e, b)
	for _, list := range [][]impl.Held{starts, next, nodes} {
		if len(list) < 2 {
			t.Fatalf("only %v", list)
		}
		for i := range list {
			want := heldTexts(list[i+1:])
			spoil([]any{append(list[i].Maps, 5), list[i].Maps})
			if got := heldTexts(list[i+1:]); got != want {
				t.Errorf("lists share memory: %s became %s", want, got)
			}
		}
	}
	if _, code := impl.HeldNext(held("X = a", 0, -1, -1, -1), b); code != impl.OK {
		t.Error("a spoilt result matters")
	}
}

// TestFiveReturns gives all functions of chapter 5 very great arguments, and strange ones.
func TestFiveReturns(t *testing.T) {
	long, very, huge := strings.Repeat("X", 24), strings.Repeat("a", 1000000), make([]int64, 1000000)
	four := digits("0 0 0 0")
	all := []impl.Bounds{
		{}, everything(), {Next: make([][]int64, 1000000), Ends: four}, {Next: [][]int64{huge}, Ends: four}, {Next: digits("0000"), Ends: make([][]int64, 1000000)}, {Next: digits("0000"), Ends: [][]int64{huge, nil, nil, nil}},
		{Start: -1 << 63, Next: digits("0000"), Ends: four}, bounds(0, "1110 2011 3222 0333", "0123 0123 0123 0123"), bounds(3, fullMaps, "0123 0123 0123 0123"),
	}
	list := append(limitedEquations(), impl.Equation{Left: long, Right: long}, impl.Equation{Left: strings.Repeat("XYZW", 6), Right: strings.Repeat("WZYX", 6)}, impl.Equation{Left: very, Right: very}, equation("XYZW = WZYX"))
	full := make([]impl.Held, 200000)
	for i := range full {
		full[i] = held("XYZW = a", 39, 39, 39, 39)
	}
	nodeLists := [][]impl.Held{nil, make([]impl.Held, 300000), {{Equation: equation("X = a"), Maps: huge}}, full, {held("X = a", -1<<63, -1, -1, -1)}}
	apart := system("XYZW = WZYX", "XYZW = XYZW", "XXXX = YYYY", "X = Y")
	for i, e := range list {
		for k, b := range all {
			n := []int64{-1 << 63, 0, 6, 1<<63 - 1}[(i+k)%4]
			lists := [][]impl.Equation{nil, apart, {e, e, e, e}, make([]impl.Equation, 300000)}
			for name, call := range fiveCalls(e, lists[(i+k)%4], lists[i%4], b, nodeLists[(i+k)%5], []string{"", very, "a", "b"}, []string{"", very, "\xff"}[k%3], n, n) {
				if len(call()) == 0 {
					t.Errorf("%s returns nothing", name)
				}
			}
		}
	}
}
