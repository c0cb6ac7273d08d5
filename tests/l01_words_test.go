package tests

import (
	"math"
	"reflect"
	"strings"
	"testing"

	"loop.example/g01143/impl"
)

func TestCodeNames(t *testing.T) {
	names := []string{"ok", "invalid", "range", "limit", "state", "syntax", "notfound", "budget", "proof"}
	codes := []int64{impl.OK, impl.ErrInvalid, impl.ErrRange, impl.ErrLimit, impl.ErrState, impl.ErrSyntax, impl.ErrNotFound, impl.ErrBudget, impl.ErrProof}
	for k, name := range names {
		if codes[k] != int64(k) || impl.CodeName(codes[k]) != name {
			t.Errorf("code %d has the name %q, want %q", codes[k], impl.CodeName(codes[k]), name)
		}
	}
	for _, k := range []int64{-1, 9, 10, 256, math.MaxInt64, math.MinInt64} {
		if impl.CodeName(k) != "" {
			t.Errorf("code %d has the name %q", k, impl.CodeName(k))
		}
	}
}

func TestLimitsOfWords(t *testing.T) {
	limits := []int{impl.MaxWord, impl.MaxTerm, impl.MaxUnknowns, impl.MaxMatches}
	if !reflect.DeepEqual(limits, []int{60, 24, 4, 200}) {
		t.Errorf("limits: got %v", limits)
	}
}

func TestValidWord(t *testing.T) {
	for _, w := range append(textsUpTo("abcd", 3), strings.Repeat("a", 60), strings.Repeat("abcd", 15)) {
		if !impl.ValidWord(w) {
			t.Errorf("%q is a word", w)
		}
	}
	for _, w := range noWords() {
		if impl.ValidWord(w) {
			t.Errorf("%.70q is no word", w)
		}
	}
	for b := range 256 {
		s := string([]byte{byte(b)})
		if impl.ValidWord(s) != strings.Contains("abcd", s) {
			t.Errorf("the byte %d: ValidWord is %v", b, impl.ValidWord(s))
		}
	}
}

// powerOf returns how often a word has to be taken to give w, or -1 if no power of it is w.
func powerOf(root, w string) int64 {
	for n := 0; n <= len(w); n++ {
		if strings.Repeat(root, n) == w {
			return int64(n)
		}
	}
	return -1
}

func TestRootOf(t *testing.T) {
	for _, w := range textsUpTo("ab", 9)[1:] {
		want, times := w, int64(1)
		for n := len(w); n >= 1; n-- {
			if p := powerOf(w[:n], w); p > 0 {
				want, times = w[:n], p
			}
		}
		root, n, code := impl.RootOf(w)
		if root != want || n != times || code != impl.OK {
			t.Errorf("RootOf %q: got %q, %d, %d, want %q, %d", w, root, n, code, want, times)
		}
	}
	root, n, code := impl.RootOf(strings.Repeat("abcd", 15))
	same(t, "most letters", `"abcd" 15 0`, root, n, code)
	root, n, code = impl.RootOf(strings.Repeat("d", 60))
	same(t, "one letter", `"d" 60 0`, root, n, code)
	root, n, code = impl.RootOf(strings.Repeat("abcdabcddd", 6)[:59])
	same(t, "no power", `"`+strings.Repeat("abcdabcddd", 6)[:59]+`" 1 0`, root, n, code)
	root, n, code = impl.RootOf("")
	same(t, "empty", `"" 0 4`, root, n, code)
	for _, w := range noWords() {
		root, n, code = impl.RootOf(w)
		same(t, "no word", `"" 0 1`, root, n, code)
	}
}

// rootOfBoth returns the shortest word of which both are powers, if there is one, by trying all.
func rootOfBoth(u, w string) string {
	for n := 1; n <= max(len(u), len(w)); n++ {
		root := (u + w)[:n]
		if powerOf(root, u) >= 0 && powerOf(root, w) >= 0 {
			return root
		}
	}
	return ""
}

func TestCommutingWords(t *testing.T) {
	words := textsUpTo("ab", 6)
	for _, u := range words {
		for _, w := range words {
			root := rootOfBoth(u, w)
			yes, code := impl.Commute(u, w)
			if wants := root != "" || u+w == ""; yes != wants || code != impl.OK {
				t.Fatalf("Commute %q, %q: got %v, %d", u, w, yes, code)
			}
			got, i, k, code := impl.CommonRoot(u, w)
			if root == "" {
				if got != "" || i != 0 || k != 0 || code != impl.ErrState {
					t.Fatalf("CommonRoot %q, %q: got %q, %d, %d, %d", u, w, got, i, k, code)
				}
			} else if got != root || i != powerOf(root, u) || k != powerOf(root, w) || code != impl.OK {
				t.Fatalf("CommonRoot %q, %q: got %q, %d, %d, %d, want %q", u, w, got, i, k, code, root)
			}
		}
	}
}

func TestCommutingEdges(t *testing.T) {
	long := strings.Repeat("abc", 20)
	root, i, k, code := impl.CommonRoot(long, strings.Repeat("abc", 19))
	same(t, "most letters", `"abc" 20 19 0`, root, i, k, code)
	root, i, k, code = impl.CommonRoot("", long)
	same(t, "left empty", `"abc" 0 20 0`, root, i, k, code)
	root, i, k, code = impl.CommonRoot("dd", "")
	same(t, "right empty", `"d" 2 0 0`, root, i, k, code)
	root, i, k, code = impl.CommonRoot("", "")
	same(t, "both empty", `"" 0 0 4`, root, i, k, code)
	yes, code := impl.Commute("", "")
	same(t, "both empty commute", `true 0`, yes, code)
	for _, bad := range noWords() {
		for _, pair := range [][]string{{bad, "a"}, {"a", bad}, {bad, bad}, {bad, ""}, {"", bad}} {
			yes, code = impl.Commute(pair[0], pair[1])
			same(t, "Commute of no word", `false 1`, yes, code)
			root, i, k, code = impl.CommonRoot(pair[0], pair[1])
			same(t, "CommonRoot of no word", `"" 0 0 1`, root, i, k, code)
		}
	}
}

func TestShifts(t *testing.T) {
	words := textsUpTo("ab", 5)
	for _, u := range words {
		for _, w := range words {
			var shifts []int64
			var parts [][]string
			for k := 0; k == 0 || k < len(u); k++ {
				if p, q := u[:k], u[k:]; q+p == w {
					shifts = append(shifts, int64(k))
					parts = append(parts, []string{p, q})
				}
			}
			gotShifts, one := impl.ShiftsOf(u, w)
			gotParts, two := impl.ConjugateParts(u, w)
			if one != impl.OK || two != impl.OK {
				t.Fatalf("%q, %q: codes %d, %d", u, w, one, two)
			}
			if len(gotShifts)+len(shifts) > 0 && !reflect.DeepEqual(gotShifts, shifts) {
				t.Fatalf("ShiftsOf %q, %q: got %v, want %v", u, w, gotShifts, shifts)
			}
			if len(gotParts)+len(parts) > 0 && !reflect.DeepEqual(gotParts, parts) {
				t.Fatalf("ConjugateParts %q, %q: got %q, want %q", u, w, gotParts, parts)
			}
		}
	}
}

func TestShiftEdges(t *testing.T) {
	shifts, code := impl.ShiftsOf("", "")
	same(t, "empty shifts", `[0] 0`, shifts, code)
	parts, code := impl.ConjugateParts("", "")
	same(t, "empty parts", `[["" ""]] 0`, parts, code)
	for _, pair := range [][]string{{"", "a"}, {"a", ""}, {"a", "b"}, {"ab", "aba"}, {"aba", "ab"}, {"aab", "abb"}} {
		shifts, code = impl.ShiftsOf(pair[0], pair[1])
		same(t, "no shift", `[] 0`, shifts, code)
		parts, code = impl.ConjugateParts(pair[0], pair[1])
		same(t, "no parts", `[] 0`, parts, code)
	}
	most := strings.Repeat("c", 60)
	shifts, code = impl.ShiftsOf(most, most)
	if len(shifts) != 60 || shifts[0] != 0 || shifts[59] != 59 || code != impl.OK {
		t.Errorf("shifts of one letter: got %v, %d", shifts, code)
	}
	shifts, code = impl.ShiftsOf(strings.Repeat("ab", 30), strings.Repeat("ba", 30))
	if len(shifts) != 30 || shifts[0] != 1 || shifts[29] != 59 || code != impl.OK {
		t.Errorf("shifts of two letters: got %v, %d", shifts, code)
	}
	for _, bad := range noWords() {
		for _, pair := range [][]string{{bad, "a"}, {"a", bad}, {bad, bad}} {
			shifts, code = impl.ShiftsOf(pair[0], pair[1])
			same(t, "ShiftsOf of no word", `[] 1`, shifts, code)
			parts, code = impl.ConjugateParts(pair[0], pair[1])
			same(t, "ConjugateParts of no word", `[] 1`, parts, code)
		}
	}
}
