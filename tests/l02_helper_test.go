package tests

import (
	"slices"
	"strings"
	"testing"

	"loop.example/g01143/impl"
)

// system returns equations from texts like "Xa = bX".
func system(texts ...string) []impl.Equation {
	var list []impl.Equation
	for _, text := range texts {
		left, right, found := strings.Cut(text, " = ")
		if !found {
			panic("no equation: " + text)
		}
		list = append(list, impl.Equation{Left: left, Right: right})
	}
	return list
}

// equation returns one equation from its text.
func equation(text string) impl.Equation {
	return system(text)[0]
}

// equations returns all equations of two terms from a list.
func equations(terms []string) []impl.Equation {
	var list []impl.Equation
	for _, left := range terms {
		for _, right := range terms {
			list = append(list, impl.Equation{Left: left, Right: right})
		}
	}
	return list
}

// noSystems are lists that are no systems.
func noSystems() [][]impl.Equation {
	list := [][]impl.Equation{system("a = a", "a = a", "a = a", "a = a", "a = a"), make([]impl.Equation, 5), make([]impl.Equation, 100000)}
	for _, bad := range append(noTerms(), strings.Repeat("X", 25)) {
		list = append(list, []impl.Equation{{Left: bad}}, []impl.Equation{{Right: bad}}, append(system("a = a", "X = X", "Y = b"), impl.Equation{Left: "a", Right: bad}))
	}
	return list
}

// noEquations are equations that are not valid.
func noEquations() []impl.Equation {
	var list []impl.Equation
	for _, bad := range append(noTerms(), strings.Repeat("a", 25)) {
		list = append(list, impl.Equation{Left: bad, Right: "a"}, impl.Equation{Left: "X", Right: bad}, impl.Equation{Left: bad, Right: bad})
	}
	return list
}

// solves reports whether values are a solution.
func solves(list []impl.Equation, v []string) bool {
	for _, e := range list {
		if putIn(e.Left, v) != putIn(e.Right, v) {
			return false
		}
	}
	return true
}

// unknownsIn returns the names of the unknowns that occur in equations.
func unknownsIn(list []impl.Equation) string {
	names := ""
	for _, x := range signs[4:] {
		if slices.ContainsFunc(list, func(e impl.Equation) bool { return strings.ContainsRune(e.Left+e.Right, x) }) {
			names += string(x)
		}
	}
	return names
}

// valuesUpTo returns all values with a sum of lengths up to total, only some unknowns not being empty, in the order of values.
func valuesUpTo(unknowns string, total int) [][]string {
	var list [][]string
	words := textsUpTo("abcd", total)
	slices.Sort(words)
	var fill func(begun []string, rest int)
	fill = func(begun []string, rest int) {
		if len(begun) == 4 {
			list = append(list, slices.Clone(begun))
			return
		}
		for _, w := range words {
			if w == "" || len(w) <= rest && strings.Contains(unknowns, signs[4+len(begun):5+len(begun)]) {
				fill(append(begun, w), rest-len(w))
			}
		}
	}
	fill(nil, total)
	return list
}

// lengthsOf returns the lengths of words.
func lengthsOf(words []string) []int64 {
	var list []int64
	for _, w := range words {
		list = append(list, int64(len(w)))
	}
	return list
}

// sumOf returns the sum of numbers.
func sumOf(numbers []int64) int64 {
	sum := int64(0)
	for _, n := range numbers {
		sum += n
	}
	return sum
}

// surplus returns how often more a sign occurs in the left term than in the right one.
func surplus(e impl.Equation, sign string) int64 {
	return int64(strings.Count(e.Left, sign) - strings.Count(e.Right, sign))
}

// sameLists fails the test unless two lists of lists of numbers are equal.
func sameLists(t *testing.T, name string, got, want [][]int64) {
	t.Helper()
	if !slices.EqualFunc(got, want, slices.Equal[[]int64]) {
		t.Errorf("%s: got %v, want %v", name, got, want)
	}
}
