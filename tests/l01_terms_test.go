package tests

import (
	"math"
	"reflect"
	"slices"
	"strings"
	"testing"

	"loop.example/g01143/impl"
)

// signs are the letters and the unknowns in the order of CountIn.
const signs = "abcdXYZW"

// smallTerms are all terms of at most three of some signs, and longer ones.
func smallTerms() []string {
	return append(textsUpTo("abXYW", 3), "aXbYcZdW", "WZYXdcba", strings.Repeat("X", 24), strings.Repeat("aWbZ", 6), strings.Repeat("d", 24))
}

// noValues are lists that are no values.
func noValues() [][]string {
	list := [][]string{nil, {}, {"a"}, {"", "", ""}, {"", "", "", "", ""}, make([]string, 1000000)}
	for _, bad := range noWords() {
		for k := range 4 {
			one := values()
			one[k] = bad
			list = append(list, one)
		}
	}
	return list
}

func TestValidTerm(t *testing.T) {
	for _, s := range smallTerms() {
		if !impl.ValidTerm(s) {
			t.Errorf("%q is a term", s)
		}
	}
	for _, s := range append(noTerms(), strings.Repeat("a", 25), strings.Repeat("X", 25)) {
		if impl.ValidTerm(s) {
			t.Errorf("%.30q is no term", s)
		}
	}
	for b := range 256 {
		s := string([]byte{byte(b)})
		if impl.ValidTerm(s) != strings.Contains(signs, s) {
			t.Errorf("the byte %d: ValidTerm is %v", b, impl.ValidTerm(s))
		}
	}
}

func TestValidValues(t *testing.T) {
	most := strings.Repeat("a", 60)
	for _, list := range [][]string{values(), values("a", "b", "c", "d"), {most, most, most, most}} {
		if !impl.ValidValues(list) {
			t.Errorf("%q are values", list)
		}
	}
	for _, list := range noValues() {
		if impl.ValidValues(list) {
			t.Errorf("a list of %d is taken for values", len(list))
		}
	}
}

func TestCounts(t *testing.T) {
	for _, term := range smallTerms() {
		var counts, unknowns []int64
		linear := true
		for k, s := range signs {
			n := int64(strings.Count(term, string(s)))
			counts = append(counts, n)
			if k >= 4 && n > 0 {
				unknowns = append(unknowns, int64(k-4))
			}
			linear = linear && (k < 4 || n < 2)
		}
		gotCounts, one := impl.CountIn(term)
		gotUnknowns, two := impl.UnknownsOf(term)
		gotLinear, three := impl.IsLinear(term)
		if one != impl.OK || two != impl.OK || three != impl.OK {
			t.Fatalf("%q: codes %d, %d, %d", term, one, two, three)
		}
		if !reflect.DeepEqual(gotCounts, counts) || !slices.Equal(gotUnknowns, unknowns) || gotLinear != linear {
			t.Errorf("%q: got %v, %v, %v", term, gotCounts, gotUnknowns, gotLinear)
		}
	}
}

func TestCountsOfNoTerm(t *testing.T) {
	for _, bad := range append(noTerms(), strings.Repeat("a", 25)) {
		counts, code := impl.CountIn(bad)
		same(t, "CountIn", `[] 1`, counts, code)
		unknowns, code := impl.UnknownsOf(bad)
		same(t, "UnknownsOf", `[] 1`, unknowns, code)
		linear, code := impl.IsLinear(bad)
		same(t, "IsLinear", `false 1`, linear, code)
		turned, code := impl.TurnTerm(bad)
		same(t, "TurnTerm", `"" 1`, turned, code)
	}
}

// putIn returns the text that a term becomes by values.
func putIn(term string, list []string) string {
	return strings.NewReplacer("X", list[0], "Y", list[1], "Z", list[2], "W", list[3]).Replace(term)
}

func TestPutIn(t *testing.T) {
	lists := [][]string{values(), values("ab", "ba", "c", "d"), values("", "a"), values(strings.Repeat("c", 20), "", "", strings.Repeat("d", 30))}
	for _, term := range smallTerms() {
		for _, list := range lists {
			want, wantCode := putIn(term, list), int64(impl.OK)
			lengths := []int64{int64(len(list[0])), int64(len(list[1])), int64(len(list[2])), int64(len(list[3]))}
			length, code := impl.TermLength(term, lengths)
			if length != int64(len(want)) || code != impl.OK {
				t.Errorf("TermLength %q, %v: got %d, %d, want %d", term, lengths, length, code, len(want))
			}
			if len(want) > 60 {
				want, wantCode = "", impl.ErrLimit
			}
			got, code := impl.PutIn(term, list)
			if got != want || code != wantCode {
				t.Errorf("PutIn %q, %q: got %q, %d, want %q, %d", term, list, got, code, want, wantCode)
			}
		}
	}
}

func TestPutInEdges(t *testing.T) {
	most := strings.Repeat("ab", 30)
	w, code := impl.PutIn("X", values(most))
	same(t, "just 60 letters", `"`+most+`" 0`, w, code)
	w, code = impl.PutIn("XY", values(most, "c"))
	same(t, "61 letters", `"" 3`, w, code)
	w, code = impl.PutIn("aYbY", values("", most[:29]))
	same(t, "60 letters in parts", `"a`+most[:29]+"b"+most[:29]+`" 0`, w, code)
	w, code = impl.PutIn("Xa", values(most))
	same(t, "a letter too many", `"" 3`, w, code)
	w, code = impl.PutIn("aXa", values("b", most, most, most))
	same(t, "long values that do not occur", `"aba" 0`, w, code)
	w, code = impl.PutIn("", values(most, most, most, most))
	same(t, "the empty term", `"" 0`, w, code)
	w, code = impl.PutIn(strings.Repeat("X", 24), values(most))
	same(t, "the longest text", `"" 3`, w, code)
	for _, bad := range noTerms() {
		w, code = impl.PutIn(bad, values())
		same(t, "no term", `"" 1`, w, code)
	}
	for _, bad := range noValues() {
		w, code = impl.PutIn("a", bad)
		same(t, "no values", `"" 1`, w, code)
		w, code = impl.PutIn(strings.Repeat("X", 25), bad)
		same(t, "neither", `"" 1`, w, code)
	}
}

func TestTermLengthEdges(t *testing.T) {
	n, code := impl.TermLength(strings.Repeat("X", 24), []int64{60, 0, 0, 0})
	if n != 1440 || code != impl.OK {
		t.Errorf("the greatest length: got %d, %d", n, code)
	}
	n, code = impl.TermLength("", []int64{60, 60, 60, 60})
	same(t, "the empty term", `0 0`, n, code)
	n, code = impl.TermLength("aXYbZWc", []int64{1, 2, 4, 8})
	same(t, "all unknowns", `18 0`, n, code)
	bad := [][]int64{nil, {0, 0, 0}, {0, 0, 0, 0, 0}, {61, 0, 0, 0}, {0, 0, 0, 61}, {0, -1, 0, 0}, {0, 0, math.MinInt64, 0}, {math.MaxInt64, 0, 0, 0}, make([]int64, 1000000)}
	for _, lengths := range bad {
		n, code = impl.TermLength("aX", lengths)
		same(t, "no lengths", `0 2`, n, code)
		n, code = impl.TermLength("ax", lengths)
		same(t, "no term comes first", `0 1`, n, code)
	}
	for _, term := range noTerms() {
		n, code = impl.TermLength(term, []int64{1, 1, 1, 1})
		same(t, "no term", `0 1`, n, code)
	}
}

func TestReplace(t *testing.T) {
	for _, term := range smallTerms() {
		for _, x := range []string{"X", "Y", "Z", "W"} {
			for _, by := range []string{"", "a", "X", "bY", "XaX", "WZYX", strings.Repeat("Z", 24)} {
				want, wantCode := "", int64(impl.OK)
				for _, s := range term {
					if string(s) == x {
						want += by
					} else {
						want += string(s)
					}
				}
				if len(want) > 24 {
					want, wantCode = "", impl.ErrLimit
				}
				got, code := impl.Replace(term, x, by)
				if got != want || code != wantCode {
					t.Errorf("Replace %q, %q, %q: got %q, %d, want %q, %d", term, x, by, got, code, want, wantCode)
				}
			}
		}
	}
}

func TestReplaceEdges(t *testing.T) {
	s, code := impl.Replace("XX", "X", strings.Repeat("aY", 6))
	same(t, "just 24", `"`+strings.Repeat("aY", 12)+`" 0`, s, code)
	s, code = impl.Replace("XXb", "X", strings.Repeat("aY", 6))
	same(t, "25", `"" 3`, s, code)
	s, code = impl.Replace(strings.Repeat("X", 24), "X", "")
	same(t, "nothing left", `"" 0`, s, code)
	s, code = impl.Replace(strings.Repeat("X", 24), "X", strings.Repeat("X", 24))
	same(t, "the longest result", `"" 3`, s, code)
	s, code = impl.Replace("abY", "Z", strings.Repeat("a", 24))
	same(t, "an unknown that does not occur", `"abY" 0`, s, code)
	for _, x := range []string{"", "a", "d", "e", "x", "V", "XX", "XY", "aX", "X ", "\xff", strings.Repeat("X", 1000000)} {
		s, code = impl.Replace("aX", x, "b")
		same(t, "no unknown", `"" 2`, s, code)
		s, code = impl.Replace(strings.Repeat("a", 24), x, strings.Repeat("a", 24))
		same(t, "no unknown in long terms", `"" 2`, s, code)
		s, code = impl.Replace("e", x, "b")
		same(t, "no term comes first", `"" 1`, s, code)
		s, code = impl.Replace("a", x, "e")
		same(t, "by no term comes first", `"" 1`, s, code)
	}
	for _, bad := range append(noTerms(), strings.Repeat("b", 25)) {
		s, code = impl.Replace(bad, "X", "b")
		same(t, "no term", `"" 1`, s, code)
		s, code = impl.Replace("a", "X", bad)
		same(t, "by no term", `"" 1`, s, code)
	}
}

// ordersOf returns all orders of the four unknowns.
func ordersOf() [][]int64 {
	var list [][]int64
	for n := range int64(256) {
		order := []int64{n / 64, n / 16 % 4, n / 4 % 4, n % 4}
		if order[0]+order[1]+order[2]+order[3] == 6 && 1<<order[0]|1<<order[1]|1<<order[2]|1<<order[3] == 15 {
			list = append(list, order)
		}
	}
	return list
}

func TestRenameTerm(t *testing.T) {
	if len(ordersOf()) != 24 {
		t.Fatalf("%d orders", len(ordersOf()))
	}
	for _, order := range ordersOf() {
		var names []string
		for _, k := range order {
			names = append(names, signs[4+k:5+k])
		}
		for _, term := range smallTerms() {
			got, code := impl.RenameTerm(term, order)
			if want := putIn(term, names); got != want || code != impl.OK {
				t.Errorf("RenameTerm %q, %v: got %q, %d, want %q", term, order, got, code, want)
			}
		}
	}
	bad := [][]int64{nil, {0, 1, 2}, {0, 1, 2, 3, 0}, {0, 1, 2, 3, 4}, {0, 1, 2, 2}, {1, 2, 3, 4}, {-1, 0, 1, 2}, {0, 0, 3, 3}, {3, 3, 0, 0}, {0, 1, 2, math.MaxInt64}, make([]int64, 1000000)}
	for _, order := range bad {
		s, code := impl.RenameTerm("ab", order)
		same(t, "no order", `"" 2`, s, code)
		s, code = impl.RenameTerm("x", order)
		same(t, "no term comes first", `"" 1`, s, code)
	}
	for _, term := range append(noTerms(), strings.Repeat("b", 25)) {
		s, code := impl.RenameTerm(term, []int64{0, 1, 2, 3})
		same(t, "no term", `"" 1`, s, code)
	}
}

func TestTurnTerm(t *testing.T) {
	for _, term := range smallTerms() {
		want := []byte(term)
		slices.Reverse(want)
		got, code := impl.TurnTerm(term)
		if got != string(want) || code != impl.OK {
			t.Errorf("TurnTerm %q: got %q, %d", term, got, code)
		}
	}
}
