package tests

import (
	"fmt"
	"math"
	"strings"
	"testing"

	"loop.example/g01143/impl"
)

// sameFamilies fails the test unless a family and a code are as wanted: with another code than OK the family is nothing.
func sameFamilies(t *testing.T, name string, got impl.Family, code int64, want string) {
	t.Helper()
	text := fmt.Sprint(code)
	if code == impl.OK {
		text = familyText(got)
	} else if len(got.Parts) > 0 {
		t.Errorf("%s: got %v with the code %d", name, got, code)
	}
	if text != want {
		t.Errorf("%s: got %q, want %q", name, text, want)
	}
}

// holdsForever fails the test unless a family holds at all numbers.
func holdsForever(t *testing.T, name string, list []impl.Equation, f impl.Family) {
	t.Helper()
	always, code := impl.HoldsAlways(list, f)
	n, firstCode := impl.FirstFailing(list, f)
	same(t, name, `true 0 0 6`, always, code, n, firstCode)
	for k := range 9 {
		if !solves(list, valuesFor(f, k)) {
			t.Errorf("%s: %v does not hold at %d", name, f, k)
		}
	}
}

func TestFamilyOfPowers(t *testing.T) {
	check := func(p impl.Powers, want string) {
		t.Helper()
		f, code := impl.FamilyOfPowers(p)
		sameFamilies(t, fmt.Sprint("FamilyOfPowers ", p), f, code, want)
	}
	empty := "\nY =\nZ =\nW =\n"
	check(powers("ab", "", 0), "X = ab^0+1k"+empty)
	check(powers("ab", "a", 0), "X = ab^0+1k a^1+0k"+empty)
	check(powers("ab", "a", 60), "X = ab^60+1k a^1+0k"+empty)
	check(powers("d", "", 60), "X = d^60+1k"+empty)
	check(powers("abaab", "abaa", 7), "X = abaab^7+1k abaa^1+0k"+empty)
	long := strings.Repeat("a", 59) + "b"
	check(powers(long, long[:59], 60), "X = "+long+"^60+1k "+long[:59]+"^1+0k"+empty)
	for _, from := range []int64{-1, 61, math.MinInt64, math.MaxInt64} {
		check(powers("ab", "", from), "1")
		check(powers("ab", "a", from), "1")
	}
	for _, p := range [][2]string{{"", ""}, {"aa", ""}, {"abab", "a"}, {"abab", "ab"}, {"", "a"}, {"ab", "ab"}, {"ab", "b"}, {"ab", "aba"}, {"ab", "ba"}, {"a", "a"}, {"abaab", "aab"}, {"a" + long, ""}, {"X", ""}, {"ab", "X"}, {"e", ""}, {"ab", "\xff"}} {
		check(powers(p[0], p[1], 0), "1")
	}
	for _, w := range noWords() {
		check(powers(w, "", 0), "1")
		check(powers(w, w[:1], 0), "1")
		check(powers("ab", w, 0), "1")
	}
}

// TestFamilyOfPowersWords compares the values of a family of powers with the words that it describes.
func TestFamilyOfPowersWords(t *testing.T) {
	for _, x := range goodDescriptions() {
		for _, p := range x.Families {
			f, code := impl.FamilyOfPowers(p)
			if code != impl.OK || !impl.ValidFamily(f) {
				t.Fatalf("FamilyOfPowers of %v: got %v, %d", p, f, code)
			}
			for k := range 5 {
				want := values(strings.Repeat(p.Root, int(p.From)+k) + p.Tail)
				same(t, fmt.Sprint("values of ", p, k), fmt.Sprintf("%q", want), valuesFor(f, k))
			}
		}
	}
}

// TestSolvedFamiliesHold makes sure that all families of solutions hold always, and with From less by one do not hold at 0.
func TestSolvedFamiliesHold(t *testing.T) {
	count := 0
	for _, p := range onePairs() {
		x, _ := impl.SolveOne(p[0], p[1])
		for _, own := range x.Families {
			count++
			f, code := impl.FamilyOfPowers(own)
			if code != impl.OK {
				t.Fatalf("FamilyOfPowers of %v: got %d", own, code)
			}
			list := []impl.Equation{{Left: p[0], Right: p[1]}}
			holdsForever(t, fmt.Sprintf("%q, %v", p, own), list, f)
			if own.From > 0 {
				own.From--
				early, _ := impl.FamilyOfPowers(own)
				first, code := impl.FirstFailing(list, early)
				same(t, fmt.Sprintf("%q, %v, too early", p, own), `0 0`, first, code)
			}
		}
	}
	if count < 20 {
		t.Errorf("only %d families", count)
	}
}

func TestCommutingFamily(t *testing.T) {
	for _, root := range append(textsUpTo("ab", 3)[1:], "abcd", sixty, strings.Repeat("a", 60), strings.Repeat("ab", 30)) {
		for a := range int64(4) {
			for b := range int64(4) {
				f, code := impl.CommutingFamily(root, a, b)
				name := fmt.Sprint("CommutingFamily ", root, a, b)
				sameFamilies(t, name, f, code, fmt.Sprintf("X = %s^0+%dk\nY = %s^0+%dk\nZ =\nW =\n", root, a, root, b))
				if !impl.ValidFamily(f) {
					t.Errorf("%s is not valid", name)
				}
				holdsForever(t, name, system("XY = YX"), f)
				// With longer roots a term would have too many letters at the test number.
				if len(root) < 10 {
					holdsForever(t, name+", more", system("XXY = XYX", "XYYX = YXXY"), f)
				}
			}
		}
	}
	check := func(root string, a, b, want int64) {
		t.Helper()
		f, code := impl.CommutingFamily(root, a, b)
		sameFamilies(t, fmt.Sprintf("CommutingFamily %.99q %d %d", root, a, b), f, code, fmt.Sprint(want))
	}
	for _, n := range []int64{-1, 4, math.MinInt64, math.MaxInt64} {
		check("ab", n, 0, impl.ErrRange)
		check("ab", 3, n, impl.ErrRange)
		check("ab", n, n, impl.ErrRange)
		check("", n, 0, impl.ErrInvalid)
		check("e", 0, n, impl.ErrInvalid)
	}
	for _, w := range append(noWords(), "") {
		check(w, 0, 0, impl.ErrInvalid)
		check(w, 1, 3, impl.ErrInvalid)
	}
}

func TestShiftingFamily(t *testing.T) {
	for _, p := range textsUpTo("ab", 3) {
		for _, q := range textsUpTo("ab", 3) {
			if p+q == "" {
				continue
			}
			f, code := impl.ShiftingFamily(p, q)
			want := "X = " + p + q + "^0+1k"
			if p != "" {
				want += " " + p + "^1+0k"
			}
			want += "\nY = " + q + p + "^1+0k\nZ = " + p + q + "^1+0k\nW =\n"
			name := fmt.Sprintf("ShiftingFamily %q %q", p, q)
			sameFamilies(t, name, f, code, want)
			if !impl.ValidFamily(f) {
				t.Errorf("%s is not valid", name)
			}
			holdsForever(t, name, system("XY = ZX"), f)
			holdsForever(t, name+", twice", system("XYY = ZZX"), f)
		}
	}
}

func TestShiftingFamilyEdges(t *testing.T) {
	check := func(p, q, want string) {
		t.Helper()
		f, code := impl.ShiftingFamily(p, q)
		sameFamilies(t, fmt.Sprintf("ShiftingFamily %.99q %.99q", p, q), f, code, want)
	}
	check("", "", "4")
	check("a", "", "X = a^0+1k a^1+0k\nY = a^1+0k\nZ = a^1+0k\nW =\n")
	check("", "ab", "X = ab^0+1k\nY = ab^1+0k\nZ = ab^1+0k\nW =\n")
	check("ab", "", "X = ab^0+1k ab^1+0k\nY = ab^1+0k\nZ = ab^1+0k\nW =\n")
	for n := range 61 {
		p, q := sixty[:n], sixty[n:]
		f, code := impl.ShiftingFamily(p, q)
		if code != impl.OK || !impl.ValidFamily(f) {
			t.Errorf("ShiftingFamily of %q and %q: got %d", p, q, code)
		}
		holdsForever(t, fmt.Sprint("ShiftingFamily of words with 60 letters ", n), system("XY = ZX"), f)
		// A word with 61 letters is no word, which is another error.
		if n > 0 && n < 60 {
			check(p+"a", q, "3")
			check(p, q+"a", "3")
		}
	}
	check(sixty, "a", "3")
	check("a", sixty, "3")
	check(sixty, sixty, "3")
	check("", sixty+"a", "1")
	check(sixty+"a", "", "1")
	check(sixty, "e", "1")
	for _, w := range noWords() {
		check(w, "", "1")
		check("", w, "1")
		check(w, w, "1")
		check(w, "ab", "1")
	}
}
