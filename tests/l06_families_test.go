package tests

import (
	"fmt"
	"reflect"
	"regexp"
	"slices"
	"strings"
	"testing"

	"loop.example/g01143/impl"
)

func TestLimitsOfFamilies(t *testing.T) {
	limits := []int{impl.MaxPieces, impl.MaxFixed, impl.MaxSlope, impl.MaxCompared, impl.MaxTextSize}
	if !reflect.DeepEqual(limits, []int{4, 60, 3, 200000, 4000}) {
		t.Errorf("limits: got %v", limits)
	}
}

func TestValidFamily(t *testing.T) {
	for _, f := range goodFamilies() {
		if !impl.ValidFamily(f) {
			t.Errorf("%v is a family", f)
		}
	}
	for i, f := range badFamilies() {
		if impl.ValidFamily(f) {
			t.Errorf("%d, %.300s: is no family", i, fmt.Sprint(f))
		}
	}
	// Each kind of piece, at each place.
	for _, p := range pieces("a^0+0k a^60+0k a^0+3k a^60+3k " + sixty + "^1+0k") {
		for x := range 4 {
			for i := range 4 {
				f := family("b^1+0k b^1+0k b^1+0k b^1+0k", "b^1+0k b^1+0k b^1+0k b^1+0k", "b^1+0k b^1+0k b^1+0k b^1+0k", "b^1+0k b^1+0k b^1+0k b^1+0k")
				f.Parts[x][i] = p
				if !impl.ValidFamily(f) {
					t.Errorf("%v is a family", f)
				}
			}
		}
	}
}

func TestSameFamily(t *testing.T) {
	check := func(f, g impl.Family, want bool) {
		t.Helper()
		if impl.SameFamily(f, g) != want || impl.SameFamily(g, f) != want {
			t.Errorf("SameFamily of %.200s and %.200s: got %v", fmt.Sprint(f), fmt.Sprint(g), !want)
		}
	}
	all := append(goodFamilies()[3:], badFamilies()...)
	for i, f := range all {
		check(f, f, true)
		if len(f.Parts) == 4 && len(f.Parts[0]) < 10 {
			copied := family()
			for x := range f.Parts {
				copied.Parts[x] = append(copied.Parts[x], f.Parts[x]...)
			}
			check(f, copied, true)
		}
		check(f, family("a^1+1k", "b^1+1k", "c^1+1k", "d^1+1k a^60+2k"), false)
		check(f, all[(i+1)%len(all)], reflect.DeepEqual(f, all[(i+1)%len(all)]))
	}
	f := "ab^3+1k b^2+0k"
	check(family(f, "", f, ""), family(f, "", f, ""), true)
	for _, other := range []string{"ab^4+1k b^2+0k", "ab^3+2k b^2+0k", "ba^3+1k b^2+0k", "abc^3+1k b^2+0k", "a^3+1k b^2+0k", "ab^3+1k b^2+1k", "ab^3+1k b^1+0k", "ab^3+1k a^2+0k", "ab^3+1k", "b^2+0k", "", "ab^3+1k b^2+0k b^2+0k", "b^2+0k ab^3+1k", "ab^3+1k ^2+0k", "ab^3+1k b^-2+0k"} {
		check(family(other, "", f, ""), family(f, "", f, ""), false)
		check(family(f, "", other, ""), family(f, "", f, ""), false)
		check(family(f, "", f, other), family(f, "", f, ""), other == "")
	}
	check(family(f), family("", f), false)
	check(family(), impl.Family{Parts: [][]impl.Piece{{}, {}, {}, {}}}, true)
	check(impl.Family{}, impl.Family{Parts: [][]impl.Piece{}}, true)
	check(family(), impl.Family{}, false)
	check(family(), impl.Family{Parts: make([][]impl.Piece, 3)}, false)
	check(family(), impl.Family{Parts: make([][]impl.Piece, 5)}, false)
}

func TestFamilyText(t *testing.T) {
	for _, f := range goodFamilies() {
		same(t, "FamilyText", fmt.Sprintf("%q", familyText(f)), impl.FamilyText(f))
	}
	for _, f := range badFamilies() {
		same(t, "FamilyText of no family", `""`, impl.FamilyText(f))
	}
	same(t, "FamilyText of no pieces", `"X =\nY =\nZ =\nW =\n"`, impl.FamilyText(family()))
	same(t, "FamilyText", `"X = a^0+0k\nY =\nZ = b^10+3k c^1+0k\nW = d^60+1k\n"`, impl.FamilyText(family("a^0+0k", "", "b^10+3k c^1+0k", "d^60+1k")))
	if text := impl.FamilyText(longestFamily()); len(text) != 1088 {
		t.Errorf("the longest text has %d bytes", len(text))
	}
}

// familyPattern is what texts of families look like.
var familyPattern = func() *regexp.Regexp {
	lines := ""
	for _, x := range "XYZW" {
		lines += string(x) + ` =( [abcd]{1,60}\^(0|[1-5]?[1-9]|[1-6]0)\+[0-3]k){0,4}\n`
	}
	return regexp.MustCompile(`\A` + lines + `\z`)
}()

// checkRead fails the test unless a text is read as it should.
func checkRead(t *testing.T, text string) {
	t.Helper()
	f, code := impl.ReadFamily(text)
	want := int64(impl.OK)
	if len(text) > 4000 {
		want = impl.ErrRange
	} else if !familyPattern.MatchString(text) {
		want = impl.ErrSyntax
	}
	if code != want || code != impl.OK && !reflect.DeepEqual(f, impl.Family{}) {
		t.Errorf("ReadFamily of %.300q: got %v and %d, want %d", text, f, code, want)
	}
	if want == impl.OK && (familyText(f) != text || !impl.ValidFamily(f)) {
		t.Errorf("ReadFamily of %q: got %v", text, f)
	}
}

func TestReadFamily(t *testing.T) {
	for _, f := range goodFamilies() {
		checkRead(t, familyText(f))
		got, code := impl.ReadFamily(familyText(f))
		if !impl.SameFamily(f, got) || code != impl.OK {
			t.Errorf("ReadFamily of %q: got %v, %d", familyText(f), got, code)
		}
	}
	for _, f := range badFamilies() {
		if len(f.Parts) > 8 || slices.ContainsFunc(f.Parts, func(list []impl.Piece) bool { return len(list) > 8 }) {
			continue
		}
		text := familyText(f)
		checkRead(t, text)
		if _, code := impl.ReadFamily(text); code == impl.OK {
			t.Errorf("ReadFamily of %q", text)
		}
	}
	got, code := impl.ReadFamily("X = ab^0+1k a^1+0k\nY = ba^1+0k\nZ =\nW = d^60+3k\n")
	same(t, "ReadFamily", `{[[{ab 0 1} {a 1 0}] [{ba 1 0}] [] [{d 60 3}]]} 0`, got, code)
}

// TestReadFamilyFaults changes texts by one byte, or by some, in all ways.
func TestReadFamilyFaults(t *testing.T) {
	for _, text := range []string{familyText(family()), familyText(family("ab^0+1k a^10+0k", "", "c^60+3k", "ba^6+2k b^1+1k a^9+0k d^30+0k"))} {
		for i := range len(text) + 1 {
			for _, c := range []byte(" \n=^+-k0123456789abcdXYZWeK\t\r\x00\xff") {
				checkRead(t, text[:i]+string([]byte{c})+text[i:])
				if i < len(text) {
					checkRead(t, text[:i]+string([]byte{c})+text[i+1:])
				}
			}
			checkRead(t, text[:i])
			checkRead(t, text[i:])
			for k := i + 1; k <= len(text); k++ {
				checkRead(t, text[:i]+text[k:])
			}
			for _, s := range []string{" ", "\n", "00", " \n", "é", "a^1+0k", " a^1+0k", "X =\n", "W =\n"} {
				checkRead(t, text[:i]+s+s+text[i:])
				checkRead(t, text[:i]+s+text[i:])
			}
		}
	}
}

func TestReadFamilyCases(t *testing.T) {
	for text, want := range map[string]int64{
		"X =\nY =\nZ =\nW =\n": 0, "X =\nY =\nZ =\nW =": 5, "X =\nY =\nZ =\n": 5, "X =\nY =\nZ =\nW =\nX =\n": 5, "X =\nY =\nZ =\nW =\n\n": 5, "\nX =\nY =\nZ =\nW =\n": 5, "": 5, "\n": 5,
		"Y =\nX =\nZ =\nW =\n": 5, "X =\nY =\nW =\nZ =\n": 5, "X =\nX =\nZ =\nW =\n": 5, "X=\nY =\nZ =\nW =\n": 5, "X  =\nY =\nZ =\nW =\n": 5, "X \nY =\nZ =\nW =\n": 5, "X =\r\nY =\nZ =\nW =\n": 5,
		"X = \nY =\nZ =\nW =\n": 5, "X =\nY =\nZ =\nW = \n": 5, "X = a^1+0k \nY =\nZ =\nW =\n": 5, "X =  a^1+0k\nY =\nZ =\nW =\n": 5, "X =a^1+0k\nY =\nZ =\nW =\n": 5, "X = a^1+0kb^1+0k\nY =\nZ =\nW =\n": 5, "X = a^1+0k  b^1+0k\nY =\nZ =\nW =\n": 5,
		"X = a^1+0k b^1+0k\nY =\nZ =\nW =\n": 0, "X = a^1+0\nY =\nZ =\nW =\n": 5, "X = a1+0k\nY =\nZ =\nW =\n": 5, "X = a^10k\nY =\nZ =\nW =\n": 5, "X = ^1+0k\nY =\nZ =\nW =\n": 5, "X = a^+0k\nY =\nZ =\nW =\n": 5, "X = a^1+k\nY =\nZ =\nW =\n": 5,
		"X = a^01+0k\nY =\nZ =\nW =\n": 5, "X = a^1+00k\nY =\nZ =\nW =\n": 5, "X = a^00+0k\nY =\nZ =\nW =\n": 5, "X = a^+1+0k\nY =\nZ =\nW =\n": 5, "X = a^-1+0k\nY =\nZ =\nW =\n": 5, "X = a^-0+0k\nY =\nZ =\nW =\n": 5, "X = a^1++1k\nY =\nZ =\nW =\n": 5, "X = a^1+-1k\nY =\nZ =\nW =\n": 5, "X = a^1-1k\nY =\nZ =\nW =\n": 5,
		"X = a^60+3k\nY =\nZ =\nW =\n": 0, "X = a^61+3k\nY =\nZ =\nW =\n": 5, "X = a^60+4k\nY =\nZ =\nW =\n": 5, "X = a^9223372036854775807+1k\nY =\nZ =\nW =\n": 5, "X = a^9223372036854775808+1k\nY =\nZ =\nW =\n": 5, "X = a^1+18446744073709551617k\nY =\nZ =\nW =\n": 5, "X = a^18446744073709551617+1k\nY =\nZ =\nW =\n": 5, "X = a^4294967297+1k\nY =\nZ =\nW =\n": 5, "X = a^1_0+1k\nY =\nZ =\nW =\n": 5, "X = a^0x1+1k\nY =\nZ =\nW =\n": 5, "X = a^1e1+1k\nY =\nZ =\nW =\n": 5,
		"X = a^1" + strings.Repeat("0", 3000) + "+1k\nY =\nZ =\nW =\n": 5, "X =" + strings.Repeat(" a^1+0k", 4) + "\nY =\nZ =\nW =\n": 0, "X =" + strings.Repeat(" a^1+0k", 5) + "\nY =\nZ =\nW =\n": 5, "X = " + sixty + "^1+0k\nY =\nZ =\nW =\n": 0, "X = " + sixty + "a^1+0k\nY =\nZ =\nW =\n": 5, "X = aX^1+0k\nY =\nZ =\nW =\n": 5, "X = e^1+0k\nY =\nZ =\nW =\n": 5,
	} {
		_, code := impl.ReadFamily(text)
		same(t, fmt.Sprintf("ReadFamily of %.100q", text), fmt.Sprint(want), code)
		checkRead(t, text)
	}
}

func TestReadFamilyLimits(t *testing.T) {
	check := func(name, text string, size int, want int64) {
		t.Helper()
		f, code := impl.ReadFamily(text)
		if len(text) != size || code != want || code != impl.OK && !reflect.DeepEqual(f, impl.Family{}) {
			t.Errorf("%s, %d bytes: got %v, %d", name, len(text), f, code)
		}
	}
	longest := familyText(longestFamily())
	check("the longest text", longest, 1088, impl.OK)
	check("one more letter", strings.Replace(longest, "^", "a^", 1), 1089, impl.ErrSyntax)
	for _, size := range []int{3999, 4000, 4001, 4002, 1000000} {
		want := int64(impl.ErrSyntax)
		if size > 4000 {
			want = impl.ErrRange
		}
		zeros := strings.Repeat("0", size)
		// But for its length and the leading zeros, this would be a text of a family.
		check("zeros", "X = a^"+zeros[23:]+"1+0k\nY =\nZ =\nW =\n", size, want)
		check("letters", strings.Repeat("a", size), size, want)
		check("newlines", strings.Repeat("\n", size), size, want)
		check("a family and more", longest+zeros[1088:], size, want)
		check("a family and blanks", "X =\nY =\nZ =\nW =\n"+strings.Repeat(" ", size-16), size, want)
		check("pieces", ("X =" + strings.Repeat(" a^1+0k", size))[:size], size, want)
		check("pieces of a family", ("X =" + strings.Repeat(" a^1+0k", size))[:size-13]+"\nY =\nZ =\nW =\n", size, want)
	}
}
