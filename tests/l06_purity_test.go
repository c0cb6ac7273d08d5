package tests

import (
	"fmt"
	"strings"
	"testing"

	"loop.example/g01143/impl"
)

// sixCalls are calls of chapter 6, each of which gives its results as a list.
func sixCalls(list []impl.Equation, f impl.Family, p impl.Powers, text string, words []string, n int64) map[string]func() []any {
	w := append(append([]string{}, words...), "", "", "", "")
	e := append(append([]impl.Equation{}, list...), equation("Xa = aX"))[0]
	return map[string]func() []any{
		"ValidFamily":     func() []any { return []any{impl.ValidFamily(f)} },
		"SameFamily":      func() []any { return []any{impl.SameFamily(f, f), impl.SameFamily(f, family("a^1+1k"))} },
		"FamilyText":      func() []any { return []any{impl.FamilyText(f)} },
		"ReadFamily":      func() []any { a, c := impl.ReadFamily(text); return []any{a, c} },
		"FamilyAt":        func() []any { a, c := impl.FamilyAt(f, n); return []any{a, c} },
		"FamilyLengths":   func() []any { a, c := impl.FamilyLengths(f, n); return []any{a, c} },
		"TestNumber":      func() []any { a, c := impl.TestNumber(list, f); return []any{a, c} },
		"HoldsAt":         func() []any { a, c := impl.HoldsAt(list, f, n); return []any{a, c} },
		"HoldsAlways":     func() []any { a, c := impl.HoldsAlways(list, f); return []any{a, c} },
		"FirstFailing":    func() []any { a, c := impl.FirstFailing(list, f); return []any{a, c} },
		"FamilyOfPowers":  func() []any { a, c := impl.FamilyOfPowers(p); return []any{a, c} },
		"CommutingFamily": func() []any { a, c := impl.CommutingFamily(w[0], n, 1); return []any{a, c} },
		"ShiftingFamily":  func() []any { a, c := impl.ShiftingFamily(w[0], w[1]); return []any{a, c} },
		"LeviParts":       func() []any { a, b, c := impl.LeviParts(w[0], w[1], w[2], w[3]); return []any{a, b, c} },
		"PowersMeet":      func() []any { a, c := impl.PowersMeet(w[0], w[1], w[2], n, 2, n); return []any{a, c} },
		"RankOfValues":    func() []any { a, c := impl.RankOfValues(words); return []any{a, c} },
		"FollowsUpTo":     func() []any { a, c := impl.FollowsUpTo(list, e, n); return []any{a, c} },
		"IsIndependent":   func() []any { a, c := impl.IsIndependent(list, n); return []any{a, c} },
	}
}

// spareFamily returns a copy of a family whose lists have unused capacity, and a text of all that is in it.
func spareFamily(f impl.Family) (impl.Family, func() string) {
	var parts, lists [][]impl.Piece
	for _, list := range f.Parts {
		own, back := withSpare(list, piece("z^7+7k"), piece("y^8+8k"))
		parts, lists = append(parts, own), append(lists, back)
	}
	own, back := withSpare(parts, pieces("x^9+9k"), nil)
	return impl.Family{Parts: own}, func() string { return fmt.Sprint(back, lists) }
}

// TestSixPure calls each function of chapter 6 twice, spoiling the first results, and looks at the arguments with their unused capacity.
func TestSixPure(t *testing.T) {
	families := append(smallFamilies()[250:], goodFamilies()[3:20]...)
	families = append(families, impl.Family{}, family("e^1+1k"), family("", "a^-1+0k"), family("a^1+4k", "a^1+0k a^1+0k a^1+0k a^1+0k a^1+0k"))
	wordLists := [][]string{values(), values("ab", "a", "a", "ba"), values("ab", "abab", "ab"), values("aab", "ba", "abb", "aab"), {"a"}, values("e"), values(sixty, sixty[:30], sixty[3:], "ba")}
	for i, f := range families {
		for k, list := range familySystems() {
			given, familyText := spareFamily(f)
			systems, systemsBack := withSpare(list, equation("X = b"), equation("a = b"))
			words, wordsBack := withSpare(wordLists[(i+k)%len(wordLists)], "x", "y")
			text := impl.FamilyText(f)
			text = text[:max(len(text)-i%2, 0)]
			p := powers([]string{"ab", "aba", "abab"}[i%3], []string{"", "a", "b"}[k%3], int64(k-1))
			was := func() string { return fmt.Sprint(familyText(), systemsBack, wordsBack) }
			before := was()
			for name, call := range sixCalls(systems, given, p, text, words, int64((i+k)%5-1)) {
				checkRepeated(t, fmt.Sprintf("%s of %q, %v", name, list, f), call)
			}
			if was() != before {
				t.Fatalf("of %q, %v: an argument is changed", list, f)
			}
		}
	}
}

// TestSixApart looks at the lists of one family, which must not share memory.
func TestSixApart(t *testing.T) {
	read, _ := impl.ReadFamily("X = a^1+1k\nY = b^1+0k a^1+0k\nZ = c^1+0k\nW = d^1+1k\n")
	shifting, _ := impl.ShiftingFamily("a", "b")
	commuting, _ := impl.CommutingFamily("ab", 1, 2)
	ofPowers, _ := impl.FamilyOfPowers(powers("ab", "a", 2))
	for _, f := range []impl.Family{read, shifting, commuting, ofPowers} {
		for i := range f.Parts {
			want := fmt.Sprint(f.Parts[i+1:])
			f.Parts[i] = append(f.Parts[i], piece("z^9+9k"))
			spoil([]any{f.Parts[i]})
			if got := fmt.Sprint(f.Parts[i+1:]); got != want {
				t.Errorf("lists share memory: %s became %s", want, got)
			}
		}
	}
}

// TestSixReturns gives all functions of chapter 6 very great arguments, and strange ones.
func TestSixReturns(t *testing.T) {
	very, most := strings.Repeat("a", 1000000), impl.Equation{Left: strings.Repeat("XYZW", 6), Right: strings.Repeat("XYZW", 6)}
	other := impl.Equation{Left: most.Left, Right: strings.Repeat("XWZY", 6)}
	systems := [][]impl.Equation{nil, {most, other, most, other}, make([]impl.Equation, 300000), {{Left: very, Right: very}}, {other}, {most}, {equation("X = "), equation(" = Y")}}
	great := impl.Family{Parts: [][]impl.Piece{pieces("a^1+0k"), make([]impl.Piece, 300000), nil, nil}}
	families := []impl.Family{{}, longestFamily(), manyLetters(), {Parts: make([][]impl.Piece, 1000000)}, great, {Parts: [][]impl.Piece{{{Word: very, Fixed: 1 << 62, Slope: 1 << 62}}, nil, nil, nil}}, family("a^60+3k", "a^0+3k", "a^0+3k", "a^59+3k")}
	wordLists := [][]string{nil, {very, very, very, very}, make([]string, 1000000), {sixty, sixty[1:], sixty[2:], sixty[3:]}, {strings.Repeat("a", 60), strings.Repeat("a", 59), strings.Repeat("a", 58) + "b", strings.Repeat("a", 57)}}
	texts := []string{"", very, strings.Repeat("\xff", 4000), "X = a^" + strings.Repeat("9", 3900), "X =" + strings.Repeat(" a^1+1k", 550)}
	for i, list := range systems {
		for k, f := range families {
			for l, n := range []int64{-1 << 63, 0, 6, 1000000, 1<<63 - 1} {
				p := []impl.Powers{{}, {Root: very, Tail: very, From: n}, powers("ab", "a", n)}[(i+k+l)%3]
				for name, call := range sixCalls(list, f, p, texts[(i+k+l)%5], wordLists[(i+2*k+l)%5], n) {
					if len(call()) == 0 {
						t.Errorf("%s returns nothing", name)
					}
				}
			}
		}
	}
}
