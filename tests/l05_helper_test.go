package tests

import (
	"fmt"
	"math"
	"slices"
	"strings"

	"loop.example/g01143/impl"
)

// digits returns lists of numbers from a text with a digit for each of them, "-" being the empty list.
func digits(text string) [][]int64 {
	var lists [][]int64
	for _, part := range strings.Fields(text) {
		var list []int64
		for _, c := range strings.Trim(part, "-") {
			list = append(list, int64(c-'0'))
		}
		lists = append(lists, list)
	}
	return lists
}

// bounds returns bounds from the states to which the letters lead from each state, and the ends of each unknown.
func bounds(start int64, next, ends string) impl.Bounds {
	return impl.Bounds{Start: start, Next: digits(next), Ends: digits(ends)}
}

// everything allows all words.
func everything() impl.Bounds {
	return bounds(0, "0000", "0 0 0 0")
}

// parity allows words with an even number of "a" for X, and all words for the others.
func parity() impl.Bounds {
	return bounds(0, "1000 0111", "0 01 01 01")
}

// turning has as many states as there may be, which "a" goes through, the other letters staying. Ends are up to the caller.
func turning(ends string) impl.Bounds {
	return bounds(0, "1000 2111 3222 0333", ends)
}

// Bounds with just MaxMaps maps, and with one more.
const (
	fullMaps = "2212 1222 3131 3212"
	overMaps = "2013 2311 0110 0103"
)

// fewBounds are small bounds of all kinds.
func fewBounds() []impl.Bounds {
	return []impl.Bounds{
		everything(), parity(),
		bounds(0, "0000", "0 - 0 -"),            // no word for Y
		bounds(0, "1111 1111", "0 0 1 01"),      // only the empty word for X and Y, all others for Z
		bounds(1, "0000 0111", "01 0 1 01"),     // words with "a" for Y, words without it for Z
		bounds(0, "0100 0100", "1 01 0 -"),      // X ends with "b"
		bounds(0, "1200 2011 0122", "0 12 1 2"), // "b" does what "aa" does
		bounds(2, "0102 0102 1002", "0 1 012 2"),
		bounds(0, "1000 1200 2222", "2 01 0 012"),                // "ab" occurs in X, and not in Y
		bounds(0, "1000 0111 2222", "2 0 1 012"),                 // a state that no word reaches, for X
		bounds(0, "1333 3233 1333 3333", "02 1 3 0123"),          // powers of "ab" for X
		turning("3 2 1 0"), bounds(3, fullMaps, "0123 1 02 123"), // the second has as many maps as there may be
	}
}

// badBounds are bounds that are not valid.
func badBounds() []impl.Bounds {
	list := []impl.Bounds{{}, {Ends: digits("0 0 0 0")}, {Next: digits("0000")}, {Ends: digits("- - - -")}}
	for _, next := range []string{"0000 0000 0000 0000 0000", "-", "000", "00000", "0000 000", "0000 00000", "0000 -", "0001", "2000 0000", "0000 0002", "1110 4444 0000 1111"} {
		list = append(list, bounds(0, next, "0 0 0 0"))
	}
	for _, ends := range []string{"", "0 0 0", "0 0 0 0 0", "- - - - -", "00 0 0 0", "0 11 0 0", "0 0 10 0", "0 0 0 010", "0 0 0 011", "2 0 0 0", "0 0 0 012", "0 0 02 0"} {
		list = append(list, bounds(0, "1000 0111", ends))
	}
	for _, bad := range []int64{-1, 2, 3, math.MinInt64, math.MaxInt64} {
		state, end := parity(), parity()
		state.Next[1][3] = bad
		end.Ends[3][1] = bad
		list = append(list, bounds(bad, "1000 0111", "0 01 01 01"), state, end)
	}
	huge := make([]int64, 100000)
	return append(list, impl.Bounds{Next: make([][]int64, 100000), Ends: digits("0 0 0 0")}, impl.Bounds{Next: [][]int64{huge}, Ends: digits("0 0 0 0")},
		impl.Bounds{Next: digits("0000"), Ends: [][]int64{huge, huge, huge, huge}}, impl.Bounds{Next: digits("0000"), Ends: make([][]int64, 100000)})
}

// behind returns the state to which a word leads from a state.
func behind(b impl.Bounds, from int64, w string) int64 {
	for _, c := range w {
		from = b.Next[from][strings.IndexRune("abcd", c)]
	}
	return from
}

// mapText returns the map of a word as a text of digits.
func mapText(b impl.Bounds, w string) string {
	text := ""
	for s := range b.Next {
		text += string(rune('0' + behind(b, int64(s), w)))
	}
	return text
}

// allowedFor reports whether a word is allowed for an unknown.
func allowedFor(b impl.Bounds, x int, w string) bool {
	return slices.Contains(b.Ends[x], behind(b, b.Start, w))
}

// firstWordsOf returns the first words of all maps, which are found by trying all words.
func firstWordsOf(b impl.Bounds) []string {
	var first []string
	had := map[string]bool{}
	for length := 0; ; length++ {
		before := len(first)
		for _, w := range textsUpTo("abcd", length) {
			if m := mapText(b, w); len(w) == length && !had[m] {
				had[m] = true
				first = append(first, w)
			}
		}
		if len(first) == before {
			return first
		}
	}
}

// holdsBy reports whether values are a solution, and those of the unknowns that occur are allowed.
func holdsBy(list []impl.Equation, b impl.Bounds, v []string) bool {
	for x := range v {
		if strings.Contains(unknownsIn(list), signs[4+x:5+x]) && !allowedFor(b, x, v[x]) {
			return false
		}
	}
	return solves(list, v)
}

// differBy reports whether values make both terms of each equation different texts.
func differBy(list []impl.Equation, v []string) bool {
	return !slices.ContainsFunc(list, func(e impl.Equation) bool { return putIn(e.Left, v) == putIn(e.Right, v) })
}

// leastOf returns of some values, in their order, the first ones with the least sum of lengths.
func leastOf(all [][]string) []string {
	var least []string
	for _, v := range all {
		if least == nil || sumOf(lengthsOf(v)) < sumOf(lengthsOf(least)) {
			least = v
		}
	}
	return least
}

// held returns a held equation.
func held(text string, maps ...int64) impl.Held {
	return impl.Held{Equation: equation(text), Maps: maps}
}

// heldText returns the text of a held equation, like "Xa = bY [1 0 -1 -1]".
func heldText(h impl.Held) string {
	return fmt.Sprint(h.Equation.Left, " = ", h.Equation.Right, " ", h.Maps)
}

// heldTexts returns the texts of held equations, a line for each of them.
func heldTexts(list []impl.Held) string {
	var texts []string
	for _, h := range list {
		texts = append(texts, heldText(h))
	}
	return strings.Join(texts, "\n")
}

// strippedByHand returns the stripped equation.
func strippedByHand(e impl.Equation) impl.Equation {
	left, right := stripByHand(e.Left, e.Right)
	return impl.Equation{Left: left, Right: right}
}

// heldOf returns a held equation, in which unknowns that do not occur have no maps.
func heldOf(e impl.Equation, maps []int64) impl.Held {
	h := impl.Held{Equation: e, Maps: slices.Clone(maps)}
	for x := range maps {
		if !strings.Contains(e.Left+e.Right, signs[4+x:5+x]) {
			h.Maps[x] = -1
		}
	}
	return h
}

// startsByHand returns the starts for an equation, with the first words of all maps. It tries all lists of maps.
func startsByHand(e impl.Equation, b impl.Bounds, words []string) []impl.Held {
	var starts []impl.Held
	stripped := strippedByHand(e)
	var fill func(maps []int64)
	fill = func(maps []int64) {
		x := len(maps)
		if x == 4 {
			starts = append(starts, impl.Held{Equation: stripped, Maps: slices.Clone(maps)})
			return
		}
		name, allowed := signs[4+x:5+x], slices.ContainsFunc(words, func(w string) bool { return allowedFor(b, x, w) })
		switch {
		case strings.Contains(stripped.Left+stripped.Right, name):
			for number, w := range words {
				if allowedFor(b, x, w) {
					fill(append(maps, int64(number)))
				}
			}
		case allowed || !strings.Contains(e.Left+e.Right, name):
			fill(append(maps, -1))
		}
	}
	fill(nil)
	return starts
}

// nextByHand returns the next ones of a held equation and their steps, and false if a step cannot be applied.
func nextByHand(h impl.Held, b impl.Bounds, words []string) ([]impl.Held, []impl.Step, bool) {
	var next []impl.Held
	var by []impl.Step
	wordOf := func(sign string) string {
		if x := strings.Index("XYZW", sign); x >= 0 {
			return words[h.Maps[x]]
		}
		return sign
	}
	for _, s := range stepsByHand(h.Equation) {
		to, ok := applyByHand(h.Equation, s)
		if !ok {
			return nil, nil, false
		}
		m := h.Maps[s.Unknown]
		for n, w := range words {
			fits := int64(n) == m
			switch {
			case s.By == "":
				fits = fits && m == 0
			case len(s.By) == 1:
				fits = fits && mapText(b, wordOf(s.By)) == mapText(b, words[m])
			default:
				fits = mapText(b, wordOf(s.By[:1])+w) == mapText(b, words[m])
			}
			if fits {
				maps := slices.Clone(h.Maps)
				maps[s.Unknown] = int64(n)
				next = append(next, heldOf(to, maps))
				by = append(by, s)
			}
		}
	}
	return next, by, true
}

// heldGraph has the nodes of an equation within bounds, each with the number of the one from which it is met first, and the step.
type heldGraph struct {
	words []string
	nodes []impl.Held
	from  []int
	by    []impl.Step
	// solved is the number of the node with empty terms, or -1.
	solved int
}

// heldGraphOf returns the nodes of an equation within bounds, and false if they are too many or a step cannot be applied.
func heldGraphOf(e impl.Equation, b impl.Bounds, most int) (heldGraph, bool) {
	g := heldGraph{words: firstWordsOf(b), solved: -1}
	had := map[string]bool{}
	meet := func(list []impl.Held, from int, by []impl.Step) {
		for i, h := range list {
			if had[heldText(h)] {
				continue
			}
			had[heldText(h)] = true
			if h.Equation == equation(" = ") {
				g.solved = len(g.nodes)
			}
			g.nodes, g.from = append(g.nodes, h), append(g.from, from)
			g.by = append(g.by, append(by, impl.Step{})[i])
		}
	}
	starts := startsByHand(e, b, g.words)
	meet(starts, -1, make([]impl.Step, len(starts)))
	for i := 0; i < len(g.nodes) && len(g.nodes) <= most; i++ {
		next, by, ok := nextByHand(g.nodes[i], b, g.words)
		if !ok {
			return heldGraph{}, false
		}
		meet(next, i, by)
	}
	return g, len(g.nodes) <= most
}

// solution returns the solution of the graph of an equation, as the document finds it.
func (g heldGraph) solution(e impl.Equation, b impl.Bounds) []string {
	var way []int
	for i := g.solved; i >= 0; i = g.from[i] {
		way = append([]int{i}, way...)
	}
	v := make([]string, 4)
	for x := range v {
		name := signs[4+x : 5+x]
		if strings.Contains(e.Left+e.Right, name) {
			// This is right for unknowns that are stripped away at once, and for others it is replaced.
			first := slices.IndexFunc(g.words, func(w string) bool { return allowedFor(b, x, w) })
			v[x] = g.words[first]
		}
		for _, i := range way {
			if number := g.nodes[i].Maps[x]; number >= 0 {
				v[x] = g.words[number]
			}
		}
	}
	for _, i := range slices.Backward(way) {
		if g.from[i] >= 0 {
			v[g.by[i].Unknown] = putIn(g.by[i].By, v)
		}
	}
	return v
}
