package tests

import (
	"math"
	"slices"
	"strconv"
	"strings"

	"loop.example/g01143/impl"
)

// piece returns a piece from its text.
func piece(text string) impl.Piece {
	word, exponent, _ := strings.Cut(text, "^")
	fixed, slope, _ := strings.Cut(strings.TrimSuffix(exponent, "k"), "+")
	f, errF := strconv.Atoi(fixed)
	s, errS := strconv.Atoi(slope)
	if errF != nil || errS != nil {
		panic("no piece: " + text)
	}
	return impl.Piece{Word: word, Fixed: int64(f), Slope: int64(s)}
}

// pieces returns the pieces from their texts, which have blanks between them.
func pieces(text string) []impl.Piece {
	var list []impl.Piece
	for _, part := range strings.Fields(text) {
		list = append(list, piece(part))
	}
	return list
}

// family returns the family whose first unknowns have some pieces, the others having none.
func family(parts ...string) impl.Family {
	var f impl.Family
	for _, part := range append(parts, make([]string, 4-len(parts))...) {
		f.Parts = append(f.Parts, pieces(part))
	}
	return f
}

// familyText returns the text of a family, also of one with up to eight lists.
func familyText(f impl.Family) string {
	text := ""
	for x, list := range f.Parts {
		text += "XYZWVUTS"[x:x+1] + " ="
		for _, p := range list {
			text += " " + p.Word + "^" + strconv.Itoa(int(p.Fixed)) + "+" + strconv.Itoa(int(p.Slope)) + "k"
		}
		text += "\n"
	}
	return text
}

// valuesFor returns the values of a family for a number, of any length.
func valuesFor(f impl.Family, k int) []string {
	var v []string
	for _, list := range f.Parts {
		value := ""
		for _, p := range list {
			value += strings.Repeat(p.Word, int(p.Fixed)+int(p.Slope)*k)
		}
		v = append(v, value)
	}
	return v
}

// testNumberOf returns the test number of a system and a family, a place after the other.
func testNumberOf(list []impl.Equation, f impl.Family) int64 {
	sum := int64(0)
	for _, e := range list {
		for _, sign := range e.Left + e.Right {
			x := strings.IndexRune("XYZW", sign)
			if x < 0 {
				sum++
				continue
			}
			for _, p := range f.Parts[x] {
				sum += int64(len(p.Word)) * p.Fixed
				if p.Slope > 0 {
					sum += int64(len(p.Word))
				}
			}
		}
	}
	return 4 + 2*sum
}

// sixty is a word with as many letters as one may have.
var sixty = strings.Repeat("abcd", 15)

// longestFamily is the family with the longest text.
func longestFamily() impl.Family {
	part := strings.Repeat(sixty+"^60+3k ", 4)
	return family(part, part, part, part)
}

// goodFamilies are valid families of all kinds.
func goodFamilies() []impl.Family {
	list := []impl.Family{
		family(), {Parts: make([][]impl.Piece, 4)}, {Parts: [][]impl.Piece{{}, nil, {}, {}}}, longestFamily(),
		family("ab^0+1k a^1+0k", "ba^1+0k", "ab^1+0k"), family("a^0+0k"), family("", "", "", "a^0+0k a^0+0k"), family("a^60+0k", "b^0+3k", "c^60+3k", "d^0+0k"),
		family("a^1+1k a^1+1k a^1+1k a^1+1k"), family("", "", "", "a^1+0k b^2+1k c^3+2k d^4+3k"), family("", "ab^10+1k", "", "ba^20+2k a^19+3k"),
	}
	for n := range int64(61) {
		list = append(list, impl.Family{Parts: [][]impl.Piece{{{Word: sixty[:1+n*59/60], Fixed: n, Slope: n % 4}}, nil, {{Word: sixty[n*59/60:], Fixed: 60 - n, Slope: (n + 1) % 4}}, nil}})
	}
	return list
}

// badPieces are pieces that are not valid.
func badPieces() []impl.Piece {
	list := pieces("^0+0k ^1+1k")
	for _, w := range noWords() {
		list = append(list, impl.Piece{Word: w, Fixed: 1, Slope: 1}, impl.Piece{Word: w})
	}
	for _, n := range []int64{-1, 61, 100, math.MinInt64, math.MaxInt64, 1 << 32} {
		list = append(list, impl.Piece{Word: "a", Fixed: n}, impl.Piece{Word: "ab", Fixed: n, Slope: 3})
	}
	for _, n := range []int64{-1, 4, 60, math.MinInt64, math.MaxInt64, 1 << 32} {
		list = append(list, impl.Piece{Word: "a", Slope: n}, impl.Piece{Word: "ab", Fixed: 60, Slope: n})
	}
	return list
}

// badFamilies are families that are not valid.
func badFamilies() []impl.Family {
	var list []impl.Family
	for _, n := range []int{0, 1, 2, 3, 5, 8, 100000} {
		list = append(list, impl.Family{Parts: make([][]impl.Piece, n)}, impl.Family{Parts: slices.Repeat([][]impl.Piece{pieces("a^1+1k")}, n)})
	}
	for x := range 4 {
		for _, n := range []int{5, 6, 100000} {
			f := family("a^1+1k", "b^1+0k", "a^0+1k", "b^1+1k")
			f.Parts[x] = slices.Repeat(pieces("a^1+0k"), n)
			list = append(list, f)
		}
		for i, p := range badPieces() {
			f := family("a^1+1k a^1+0k a^1+0k b^1+0k", "b^1+0k b^1+0k b^1+0k b^1+0k", "a^1+1k a^1+1k a^1+0k a^1+0k", "d^1+0k c^1+1k b^1+0k a^1+0k")
			f.Parts[x][i%4] = p
			g := family()
			g.Parts[x] = []impl.Piece{p}
			list = append(list, f, g)
		}
	}
	return list
}

// isCodeByHand reports whether no text has two decodings. Two readers, which begin with different words, go through a
// text letter by letter, each knowing what is left of its word.
func isCodeByHand(set []string) bool {
	var left [][2]string
	for _, u := range set {
		for _, v := range set {
			if u != v {
				left = append(left, [2]string{u, v})
			}
		}
	}
	had := map[[2]string]bool{}
	for i := 0; i < len(left); i++ {
		u, v := left[i][0], left[i][1]
		switch {
		case had[left[i]]:
		case u == "" && v == "":
			return false
		case u == "" || v == "":
			for _, w := range set {
				left = append(left, [2]string{max(u, v), w})
			}
		case u[0] == v[0]:
			left = append(left, [2]string{u[1:], v[1:]})
		}
		had[left[i]] = true
	}
	return true
}

// isMadeOf reports whether a text is made of some words.
func isMadeOf(text string, set []string) bool {
	ok := make([]bool, len(text)+1)
	ok[0] = true
	for i := range text {
		for _, w := range set {
			if ok[i] && strings.HasPrefix(text[i:], w) {
				ok[i+len(w)] = true
			}
		}
	}
	return ok[len(text)]
}

// areMadeOf reports whether all texts of a list are made of some words.
func areMadeOf(list, set []string) bool {
	return !slices.ContainsFunc(list, func(w string) bool { return !isMadeOf(w, set) })
}

// hullByHand returns the hull of short words: of all codes of which they are made, it is the one of which the others have
// all words made. Only words that occur within the given ones, and of which all are used, need to be tried.
func hullByHand(words []string) []string {
	var parts []string
	for _, w := range words {
		for i := range w {
			for k := i + 1; k <= len(w); k++ {
				parts = append(parts, w[i:k])
			}
		}
	}
	slices.Sort(parts)
	parts = slices.Compact(parts)
	var codes [][]string
	var choose func(from int, chosen []string)
	choose = func(from int, chosen []string) {
		if areMadeOf(words, chosen) && isCodeByHand(chosen) {
			codes = append(codes, slices.Clone(chosen))
		}
		if len(chosen) < 4 {
			for i := from; i < len(parts); i++ {
				choose(i+1, append(chosen, parts[i]))
			}
		}
	}
	choose(0, nil)
	for _, code := range codes {
		if !slices.ContainsFunc(codes, func(other []string) bool { return !areMadeOf(code, other) }) {
			return code
		}
	}
	panic("no hull of " + strings.Join(words, " "))
}
