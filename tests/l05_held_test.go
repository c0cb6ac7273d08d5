package tests

import (
	"fmt"
	"math"
	"slices"
	"strings"
	"testing"

	"loop.example/g01143/impl"
)

// sameHeld fails the test unless two lists of held equations are equal.
func sameHeld(t *testing.T, name string, got, want []impl.Held) {
	t.Helper()
	if heldTexts(got) != heldTexts(want) {
		t.Errorf("%s: got\n%s\nwant\n%s", name, heldTexts(got), heldTexts(want))
	}
}

// heldEquations are small equations of all kinds, quadratic ones and others.
func heldEquations() []impl.Equation {
	return append(equations(textsUpTo("aXY", 2)), system(
		"Xab = baX", "Xa = bX", "XYa = YX", "XaY = YbX", "XX = YY", "XY = aXb", "XaXb = bYaY", "XX = aYa", "X = YaY", "aXb = aYb", "XYa = XYb", "XYX = aY", "XXX = a", "XYYX = XXYY", "bXac = baXc",
		"ZWd = dWZ", "Z = XY", "XZ = ZY", "WX = YaW", "ZaW = WbZ", "cZ = Zd", "XYZ = ZYX", "ZXY = ZYX", "WWaX = WWXb",
	)...)
}

func TestHeldStarts(t *testing.T) {
	for _, b := range fewBounds() {
		words := firstWordsOf(b)
		for _, e := range heldEquations() {
			if len(words) > 6 && len(unknownsIn([]impl.Equation{e})) > 1 {
				continue
			}
			want := startsByHand(e, b, words)
			got, code := impl.HeldStarts(e, b)
			sameHeld(t, fmt.Sprint("HeldStarts ", e, b), got, want)
			if code != impl.OK {
				t.Errorf("HeldStarts of %q and %v: got %d", e, b, code)
			}
		}
	}
}

func TestHeldStartsCases(t *testing.T) {
	empty, unreached := bounds(0, "1000 0111", "0 - 1 01"), bounds(0, "1000 0111 2222", "01 2 1 01")
	cases := []struct {
		equation string
		bounds   impl.Bounds
		want     string
	}{
		{"X = aa", parity(), "X = aa [0 -1 -1 -1]"},
		{"Y = aa", parity(), "Y = aa [-1 0 -1 -1]\nY = aa [-1 1 -1 -1]"},
		{"YW = WYa", parity(), "YW = WYa [-1 0 -1 0]\nYW = WYa [-1 0 -1 1]\nYW = WYa [-1 1 -1 0]\nYW = WYa [-1 1 -1 1]"},
		{"X = Z", bounds(0, "1200 2011 0122", "02 0 12 0"), "X = Z [0 -1 1 -1]\nX = Z [0 -1 2 -1]\nX = Z [2 -1 1 -1]\nX = Z [2 -1 2 -1]"},
		{"aXb = aZb", parity(), "X = Z [0 -1 0 -1]\nX = Z [0 -1 1 -1]"},
		{" = ", parity(), " =  [-1 -1 -1 -1]"},
		{" = ", empty, " =  [-1 -1 -1 -1]"},
		{"a = b", empty, "a = b [-1 -1 -1 -1]"},
		{"XaW = XaW", parity(), " =  [-1 -1 -1 -1]"},
		{"WZX = WZX", empty, " =  [-1 -1 -1 -1]"}, // each of them has words, so there is one start
		{"WZY = WZY", empty, ""},
		{"WY = WY", unreached, ""},
		{"aY = aY", empty, ""},
		{"Xa = YX", empty, ""},
		{"Xa = ZX", empty, "Xa = ZX [0 -1 1 -1]"}, // the ends of Y do not matter
		{"YXa = YZX", empty, ""},
		{"YXa = YZX", unreached, ""},
		{"WXa = WZX", empty, "Xa = ZX [0 -1 1 -1]"}, // both maps of W will do
		{"XZaY = bXaY", unreached, ""},
		{"XYa = bYX", bounds(0, "1111 1111", "1 0 01 01"), "XYa = bYX [1 0 -1 -1]"},
	}
	for _, c := range cases {
		got, code := impl.HeldStarts(equation(c.equation), c.bounds)
		if heldTexts(got) != c.want || code != impl.OK {
			t.Errorf("HeldStarts of %s and %v: got %d and\n%s\nwant\n%s", c.equation, c.bounds, code, heldTexts(got), c.want)
		}
	}
}

// Equations and bounds with just MaxHeld starts, and with 605, which is the next number that there can be: 601 to 604 have greater prime factors than there can be maps.
var (
	fullStarts     = bounds(1, "0120 1120 1212", "2 1 1 01")
	fullStartsPair = bounds(3, "2323 2233 2330 0203", "03 012 - 12")
	overStarts     = bounds(2, "2122 0022 0001", "1 12 02 0")
)

func TestHeldStartsLimits(t *testing.T) {
	check := func(text string, b impl.Bounds, want string) {
		t.Helper()
		got, code := impl.HeldStarts(equation(text), b)
		same(t, "HeldStarts "+text, want, len(got), code)
		if own := startsByHand(equation(text), b, firstWordsOf(b)); code == impl.OK {
			sameHeld(t, "HeldStarts "+text, got, own)
		}
	}
	check("XYZW = WZYX", fullStarts, `600 0`)
	check("X = Y", fullStartsPair, `600 0`)
	check("XY = aZb", overStarts, `0 3`)
	if own := startsByHand(equation("XY = aZb"), overStarts, firstWordsOf(overStarts)); len(own) != 605 {
		t.Errorf("there are %d starts", len(own))
	}
	// An unknown that is stripped away has no more starts, and if it has no map, none.
	check("WXY = WaZb", overStarts, `0 3`)
	check("ZX = ZY", fullStartsPair, `0 0`)
	noW, unreachedW := overStarts, overStarts
	noW.Ends = digits("1 12 02 -")
	unreachedW.Next, unreachedW.Ends = digits("2122 0022 0001 3333"), digits("1 12 02 3")
	check("XY = aZb", noW, `0 3`)
	check("WXY = WaZb", noW, `0 0`)
	check("XYaW = aZbaW", unreachedW, `0 0`)
	check("X = Y", bounds(3, fullMaps, "0123 - 0123 0123"), `0 0`)
	check("XYZ = a", bounds(3, fullMaps, "0123 0123 - 0123"), `0 0`)
	check("XYZ = aZ", bounds(3, fullMaps, "0123 0123 - 0123"), `0 0`)
	check("XY = a", bounds(3, fullMaps, "0123 0123 - 0123"), `0 3`)
	check("X = a", bounds(3, fullMaps, "0123 - 0123 0123"), `40 0`)
	got, code := impl.HeldStarts(equation("XYZW = a"), bounds(3, fullMaps, "0123 0123 0123 0123"))
	same(t, "very many starts", `[] 3`, got, code)
	for _, ends := range []string{"- - - -", "0123 0123 0123 0123"} {
		for _, text := range []string{" = ", "a = b", "X = a", "X = X"} {
			got, code = impl.HeldStarts(equation(text), bounds(3, overMaps, ends))
			same(t, "more than MaxMaps maps, "+text, `[] 3`, got, code)
		}
	}
	for _, e := range noEquations() {
		got, code = impl.HeldStarts(e, parity())
		same(t, "no equation", `[] 1`, got, code)
		got, code = impl.HeldStarts(e, bounds(3, overMaps, "- - - -"))
		same(t, "no equation, and more than MaxMaps maps", `[] 1`, got, code)
	}
	for _, b := range badBounds() {
		got, code = impl.HeldStarts(equation("X = a"), b)
		same(t, "bad bounds", `[] 1`, got, code)
	}
}

// TestHeldNext looks at held equations with all lists of maps.
func TestHeldNext(t *testing.T) {
	for _, b := range fewBounds() {
		words := firstWordsOf(b)
		for _, e := range heldEquations() {
			e = strippedByHand(e)
			if len(words) > 6 && len(unknownsIn([]impl.Equation{e})) > 1 {
				continue
			}
			// All words are allowed here, so that there are starts with all maps.
			all := b
			all.Ends = digits("0123 0123 0123 0123")
			for i := range all.Ends {
				all.Ends[i] = all.Ends[i][:len(b.Next)]
			}
			for _, h := range startsByHand(e, all, words) {
				want, _, ok := nextByHand(h, b, words)
				got, code := impl.HeldNext(h, b)
				if sameHeld(t, fmt.Sprint("HeldNext ", h, b), got, want); code != impl.OK || !ok {
					t.Errorf("HeldNext of %v and %v: got %d", h, b, code)
				}
			}
		}
	}
}

func TestHeldNextCases(t *testing.T) {
	// The maps of "onlyEmpty" are those of the empty word and of all others, those of "endsB" of the empty word, of words that end otherwise, and of those that end with "b".
	onlyEmpty, endsB, thirds := bounds(0, "1111 1111", "01 01 01 01"), bounds(2, "0100 0100 0100", "0 0 0 0"), bounds(0, "1200 2011 0122", "0 0 0 0")
	cases := []struct {
		held   impl.Held
		bounds impl.Bounds
		want   string
	}{
		{held(" = ", -1, -1, -1, -1), parity(), ""},
		{held("a = b", -1, -1, -1, -1), parity(), ""},
		{held("a = bX", 0, -1, -1, -1), bounds(0, "0000", "- - - -"), ""}, // ends do not matter, but letters differ
		{held("X = ", 0, -1, -1, -1), parity(), " =  [-1 -1 -1 -1]"},
		{held("X = ", 1, -1, -1, -1), parity(), ""},
		{held(" = WX", 0, -1, -1, 0), parity(), " = X [0 -1 -1 -1]"},
		{held(" = WX", 0, -1, -1, 1), parity(), ""},
		// A letter and itself, with one, no and several maps that fit.
		{held("Xa = bY", 0, 1, -1, -1), parity(), "a = bY [-1 1 -1 -1]\nXa = Y [0 1 -1 -1]"},
		{held("Xa = aY", 0, 1, -1, -1), parity(), " = Y [-1 1 -1 -1]\nXa = Y [1 1 -1 -1]"},
		{held("X = ab", 0, -1, -1, -1), onlyEmpty, " = ab [-1 -1 -1 -1]"},
		{held("X = ab", 1, -1, -1, -1), onlyEmpty, "X = b [0 -1 -1 -1]\nX = b [1 -1 -1 -1]"},
		{held("ab = X", 2, -1, -1, -1), endsB, "b = X [2 -1 -1 -1]"},
		{held("ba = X", 2, -1, -1, -1), endsB, "a = X [0 -1 -1 -1]\na = X [2 -1 -1 -1]"},
		{held("ba = X", 1, -1, -1, -1), endsB, "a = X [1 -1 -1 -1]"},
		{held("ba = X", 0, -1, -1, -1), endsB, "ba =  [-1 -1 -1 -1]"},
		// Another unknown alone with the same map and with another one; another unknown and itself.
		{held("XZ = YW", 1, 1, 0, 2), thirds, "Z = W [-1 -1 0 2]\nXZ = W [0 -1 0 2]\nZ = YW [-1 0 0 2]"},
		{held("XZ = YW", 1, 2, 0, 2), thirds, "XZ = W [2 -1 0 2]\nZ = YW [-1 1 0 2]"},
		{held("XZ = YW", 0, 0, 0, 2), thirds, "Z = YW [-1 0 0 2]\nXZ = W [0 -1 0 2]\nZ = W [-1 -1 0 2]\nXZ = W [0 -1 0 2]\nZ = YW [-1 0 0 2]"},
		{held("XZ = YW", 2, 0, 1, 1), endsB, "XZ = W [2 -1 1 1]\nXZ = W [2 -1 1 1]"},
		{held("XZ = YW", 2, 1, 1, 1), endsB, "XZ = W [2 -1 1 1]\nZ = YW [-1 1 1 1]"},
		{held("XZ = YW", 1, 1, 1, 1), onlyEmpty, "Z = W [-1 -1 1 1]\nXZ = W [0 -1 1 1]\nXZ = W [1 -1 1 1]\nZ = YW [-1 0 1 1]\nZ = YW [-1 1 1 1]"},
		// The same next ones are told twice.
		{held("X = Y", 0, 0, -1, -1), parity(), " = Y [-1 0 -1 -1]\nX =  [0 -1 -1 -1]\n =  [-1 -1 -1 -1]\nX =  [0 -1 -1 -1]\n = Y [-1 0 -1 -1]"},
		{held("X = Y", 1, 1, -1, -1), parity(), " =  [-1 -1 -1 -1]\nX =  [0 -1 -1 -1]\n = Y [-1 0 -1 -1]"},
		// Unknowns that vanish by a step of another one, in both terms or in one of them.
		{held("XY = YX", 0, 1, -1, -1), parity(), " =  [-1 -1 -1 -1]\nXY = YX [1 1 -1 -1]\nXY = YX [0 1 -1 -1]"},
		{held("XYa = YX", 0, 1, -1, -1), parity(), "a =  [-1 -1 -1 -1]\nXYa = YX [1 1 -1 -1]\nXYa = YX [0 1 -1 -1]"},
		{held("XYa = YbXY", 0, 0, -1, -1), parity(), "a = bY [-1 0 -1 -1]\nXa = bX [0 -1 -1 -1]\nYa = bYY [-1 0 -1 -1]\nXYa = bYXY [0 0 -1 -1]\nXYa = YbXXY [0 0 -1 -1]"},
		{held("XaZ = YaZW", 1, 1, 0, 0), parity(), " = W [-1 -1 -1 0]\nXaZ = aZW [0 -1 0 0]\naZ = YaZW [-1 0 0 0]"},
	}
	for _, c := range cases {
		got, code := impl.HeldNext(c.held, c.bounds)
		if heldTexts(got) != c.want || code != impl.OK {
			t.Errorf("HeldNext of %v and %v: got %d and\n%s\nwant\n%s", c.held, c.bounds, code, heldTexts(got), c.want)
		}
	}
}

// badHeld are held equations that are not valid.
func badHeld() []impl.Held {
	list := []impl.Held{
		held("X = a"), held("X = a", 0), held("X = a", 0, -1, -1), held("X = a", 0, -1, -1, -1, -1), held(" = ", -1, -1, -1), held(" = ", -1, -1, -1, -1, -1), {Equation: equation("X = a"), Maps: make([]int64, 100000)},
		held("X = a", -1, -1, -1, -1), held("X = a", -2, -1, -1, -1), held("X = a", 40, -1, -1, -1), held("X = a", math.MaxInt64, -1, -1, -1), held("X = a", math.MinInt64, -1, -1, -1),
		held("X = a", 0, 0, -1, -1), held("X = a", 0, -1, -1, 0), held("X = a", 0, -2, -1, -1), held("X = a", 0, 40, -1, -1), held(" = ", 0, -1, -1, -1), held("WX = aW", 0, -1, -1, -1), held("WX = aW", -1, -1, -1, 0),
		held("aX = aY", 0, 0, -1, -1), held("Xb = Yb", 0, 0, -1, -1), held("X = X", 0, -1, -1, -1), held("ZX = ZY", 0, 0, 0, -1), held("a = a", -1, -1, -1, -1), held("XZ = YZ", 0, 0, 0, -1), held("XaY = aY", 0, 0, -1, -1),
	}
	for _, e := range noEquations() {
		list = append(list, impl.Held{Equation: e, Maps: []int64{0, -1, -1, -1}}, impl.Held{Equation: e, Maps: []int64{-1, -1, -1, -1}})
	}
	return list
}

// longHeld are held equations that have a step that cannot be applied, also such in which no map fits for this step.
func longHeld() []impl.Held {
	twelve := strings.Repeat("X", 12)
	return []impl.Held{
		{Equation: impl.Equation{Left: twelve + "a", Right: "b"}, Maps: []int64{0, -1, -1, -1}}, {Equation: impl.Equation{Left: "c", Right: twelve + "X"}, Maps: []int64{0, -1, -1, -1}},
		{Equation: tooLongSolvable, Maps: []int64{0, 0, -1, -1}}, {Equation: impl.Equation{Left: "X" + strings.Repeat("a", 22) + "X", Right: "b"}, Maps: []int64{0, -1, -1, -1}},
	}
}

func TestHeldNextErrors(t *testing.T) {
	check := func(name string, h impl.Held, b impl.Bounds, want string) {
		t.Helper()
		got, code := impl.HeldNext(h, b)
		same(t, name, want, got, code)
	}
	over := bounds(3, overMaps, "- - - -")
	for i, h := range badHeld() {
		check(fmt.Sprint("bad held equation ", i), h, parity(), `[] 1`)
		check(fmt.Sprint("bad held equation, more than MaxMaps maps ", i), h, over, `[] 1`)
	}
	for _, b := range badBounds() {
		check("bad bounds", held("X = a", 0, -1, -1, -1), b, `[] 1`)
		check("bad bounds and no map", held("X = a", 39, -1, -1, -1), b, `[] 1`)
		check("bad bounds of a solved equation", held(" = ", -1, -1, -1, -1), b, `[] 1`)
	}
	check("more than MaxMaps maps", held("X = a", 0, -1, -1, -1), over, `[] 3`)
	check("more than MaxMaps maps, and no step", held(" = ", -1, -1, -1, -1), over, `[] 3`)
	check("the last map", held("X = ", 1, -1, -1, -1), parity(), `[] 0`)
	check("one map too many", held("X = ", 2, -1, -1, -1), parity(), `[] 2`)
	check("one map too many, of the last unknown", held("XW = ZY", 0, 1, 1, 2), parity(), `[] 2`)
	check("the last number of a map", held("X = ", 39, -1, -1, -1), parity(), `[] 2`)
	check("the last number, of another unknown than the one of the steps", held("X = bY", 0, 39, -1, -1), parity(), `[] 2`)
	check("the last number, no step", held("a = bY", -1, 39, -1, -1), parity(), `[] 2`)
	check("the last of MaxMaps maps", held("X = ", 39, -1, -1, -1), bounds(3, fullMaps, "- - - -"), `[] 0`)
	for _, h := range longHeld() {
		check("a step that cannot be applied", h, parity(), `[] 3`)
		h.Maps[0] = 1
		check("a step that cannot be applied, another map", h, parity(), `[] 3`)
		h.Maps[0] = 2
		check("one map too many, and a step that cannot be applied", h, parity(), `[] 2`)
	}
	for _, h := range longHeld() {
		check("a step that cannot be applied, and fits no map", h, bounds(0, "1111 1111", "- - - -"), `[] 3`)
	}
	// With just MaxTerm letters and unknowns a step can be applied.
	twelve := impl.Held{Equation: impl.Equation{Left: strings.Repeat("X", 12), Right: "b"}, Maps: []int64{0, -1, -1, -1}}
	check("a step to the greatest term", twelve, everything(), fmt.Sprint(`[{{ b} [-1 -1 -1 -1]} {{`, strings.Repeat("Xb", 12)[:23], ` } [0 -1 -1 -1]}] 0`))
}

// TestHeldNextAreHeld makes sure that next ones are valid held equations themselves.
func TestHeldNextAreHeld(t *testing.T) {
	for _, b := range fewBounds()[:7] {
		for _, e := range system("XY = YX", "XaY = YaX", "X = YZ", "XaXb = YY", "XYb = aYX") {
			starts, _ := impl.HeldStarts(e, b)
			for _, h := range starts {
				next, code := impl.HeldNext(h, b)
				for _, n := range next {
					_, nextCode := impl.HeldNext(n, b)
					if code != impl.OK || nextCode != impl.OK || !slices.Equal(n.Maps, heldOf(n.Equation, n.Maps).Maps) {
						t.Errorf("a next one of %v is %v, %d, %d", h, n, code, nextCode)
					}
				}
			}
		}
	}
}
