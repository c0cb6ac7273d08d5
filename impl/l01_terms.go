package impl

import (
	"iter"
	"slices"
	"strings"
)

// Codes of errors.
const (
	OK          = 0
	ErrInvalid  = 1
	ErrRange    = 2
	ErrLimit    = 3
	ErrState    = 4
	ErrSyntax   = 5
	ErrNotFound = 6
	ErrBudget   = 7
	ErrProof    = 8
)

// Limits of words and terms.
const (
	MaxWord     = 60
	MaxTerm     = 24
	MaxUnknowns = 4
	MaxMatches  = 200
)

// The letters and the unknowns stand in the order of their numbers.
const (
	letterTexts  = "abcd"
	unknownTexts = "XYZW"
	symbolKinds  = len(letterTexts) + len(unknownTexts)
)

// symbol is what stands at one place of a term.
type symbol interface {
	// text returns what is written for the symbol in a term.
	text() string
	// kind returns the index of the symbol among all letters and then all unknowns.
	kind() int
}

// letterSymbol is the number of a letter.
type letterSymbol int64

func (l letterSymbol) text() string { return letterTexts[l : l+1] }

func (l letterSymbol) kind() int { return int(l) }

// unknownSymbol is the number of an unknown.
type unknownSymbol int64

func (x unknownSymbol) text() string { return unknownTexts[x : x+1] }

func (x unknownSymbol) kind() int { return len(letterTexts) + int(x) }

// symbolsOf returns the symbols of a valid term.
func symbolsOf(t string) []symbol {
	list := make([]symbol, 0, len(t))
	for i := range len(t) {
		if k := strings.IndexByte(letterTexts, t[i]); k >= 0 {
			list = append(list, letterSymbol(k))
		} else {
			list = append(list, unknownSymbol(strings.IndexByte(unknownTexts, t[i])))
		}
	}
	return list
}

// kindCounts returns how often each kind of symbol occurs in a valid term.
func kindCounts(t string) [symbolKinds]int64 {
	var counts [symbolKinds]int64
	for _, s := range symbolsOf(t) {
		counts[s.kind()]++
	}
	return counts
}

// madeOf reports whether a text has at most so many bytes, all of them among some signs.
func madeOf(text, signs string, most int) bool {
	// The length comes first, so that a very long text is not read.
	if len(text) > most {
		return false
	}
	for i := range len(text) {
		if strings.IndexByte(signs, text[i]) < 0 {
			return false
		}
	}
	return true
}

// CodeName returns the name of an error code.
func CodeName(code int64) string {
	names := [...]string{"ok", "invalid", "range", "limit", "state", "syntax", "notfound", "budget", "proof"}
	if code < 0 || code >= int64(len(names)) {
		return ""
	}
	return names[code]
}

// ValidWord reports whether a text is a word.
func ValidWord(w string) bool {
	return madeOf(w, letterTexts, MaxWord)
}

// rootLength returns the length of the root of a word that is not empty.
func rootLength(w string) int {
	for n := 1; n < len(w); n++ {
		if len(w)%n == 0 && strings.Repeat(w[:n], len(w)/n) == w {
			return n
		}
	}
	return len(w)
}

// RootOf returns the shortest word of which a word is a power, and how often.
func RootOf(w string) (string, int64, int64) {
	if !ValidWord(w) {
		return "", 0, ErrInvalid
	}
	if w == "" {
		return "", 0, ErrState
	}
	n := rootLength(w)
	return w[:n], int64(len(w) / n), OK
}

// Commute reports whether two words commute.
func Commute(u, w string) (bool, int64) {
	if !ValidWord(u) || !ValidWord(w) {
		return false, ErrInvalid
	}
	return u+w == w+u, OK
}

// CommonRoot returns the shortest word of which two words are powers, and how often.
func CommonRoot(u, w string) (string, int64, int64, int64) {
	if !ValidWord(u) || !ValidWord(w) {
		return "", 0, 0, ErrInvalid
	}
	both := u + w
	if both == "" || both != w+u {
		return "", 0, 0, ErrState
	}
	// Words that commute are powers of one root, which is then the root of both together.
	n := rootLength(both)
	return both[:n], int64(len(u) / n), int64(len(w) / n), OK
}

// ShiftsOf returns the shifts that lead from a word to another one.
func ShiftsOf(u, w string) ([]int64, int64) {
	if !ValidWord(u) || !ValidWord(w) {
		return nil, ErrInvalid
	}
	var shifts []int64
	for k := range max(len(u), 1) {
		if u[k:]+u[:k] == w {
			shifts = append(shifts, int64(k))
		}
	}
	return shifts, OK
}

// ConjugateParts returns the parts that are exchanged by these shifts.
func ConjugateParts(u, w string) ([][]string, int64) {
	shifts, code := ShiftsOf(u, w)
	if code != OK {
		return nil, code
	}
	var parts [][]string
	for _, k := range shifts {
		parts = append(parts, []string{u[:k], u[k:]})
	}
	return parts, OK
}

// ValidTerm reports whether a text is a term.
func ValidTerm(t string) bool {
	return madeOf(t, letterTexts+unknownTexts, MaxTerm)
}

// UnknownsOf returns the numbers of the unknowns of a term.
func UnknownsOf(t string) ([]int64, int64) {
	if !ValidTerm(t) {
		return nil, ErrInvalid
	}
	counts := kindCounts(t)
	var list []int64
	for k := range unknownSymbol(MaxUnknowns) {
		if counts[k.kind()] > 0 {
			list = append(list, int64(k))
		}
	}
	return list, OK
}

// CountIn returns how often each letter and unknown occurs.
func CountIn(t string) ([]int64, int64) {
	if !ValidTerm(t) {
		return nil, ErrInvalid
	}
	counts := kindCounts(t)
	return counts[:], OK
}

// ValidValues reports whether words are values of all unknowns.
func ValidValues(values []string) bool {
	if len(values) != MaxUnknowns {
		return false
	}
	for _, w := range values {
		if !ValidWord(w) {
			return false
		}
	}
	return true
}

// textBy returns the text, of any length, that a valid term becomes by valid values.
func textBy(t string, values []string) string {
	var b strings.Builder
	for _, s := range symbolsOf(t) {
		switch s := s.(type) {
		case letterSymbol:
			b.WriteString(s.text())
		case unknownSymbol:
			b.WriteString(values[s])
		}
	}
	return b.String()
}

// PutIn returns the word that a term becomes by values.
func PutIn(t string, values []string) (string, int64) {
	if !ValidTerm(t) || !ValidValues(values) {
		return "", ErrInvalid
	}
	w := textBy(t, values)
	if len(w) > MaxWord {
		return "", ErrLimit
	}
	return w, OK
}

// areLengths reports whether numbers are lengths of values.
func areLengths(lengths []int64) bool {
	if len(lengths) != MaxUnknowns {
		return false
	}
	for _, n := range lengths {
		if n < 0 || n > MaxWord {
			return false
		}
	}
	return true
}

// lengthBy returns the length that a valid term gets by values with such lengths.
func lengthBy(t string, lengths []int64) int64 {
	sum := int64(0)
	for _, s := range symbolsOf(t) {
		switch s := s.(type) {
		case letterSymbol:
			sum++
		case unknownSymbol:
			sum += lengths[s]
		}
	}
	return sum
}

// TermLength returns the length that a term gets.
func TermLength(t string, lengths []int64) (int64, int64) {
	if !ValidTerm(t) {
		return 0, ErrInvalid
	}
	if !areLengths(lengths) {
		return 0, ErrRange
	}
	return lengthBy(t, lengths), OK
}

// isUnknown reports whether a text is the name of an unknown.
func isUnknown(x string) bool {
	return len(x) == 1 && strings.Contains(unknownTexts, x)
}

// Replace returns the term in which an unknown is replaced.
func Replace(t, x, by string) (string, int64) {
	if !ValidTerm(t) || !ValidTerm(by) {
		return "", ErrInvalid
	}
	if !isUnknown(x) {
		return "", ErrRange
	}
	result := strings.ReplaceAll(t, x, by)
	if len(result) > MaxTerm {
		return "", ErrLimit
	}
	return result, OK
}

// isOrder reports whether a list contains the number of each unknown once.
func isOrder(order []int64) bool {
	if len(order) != MaxUnknowns {
		return false
	}
	for k := range int64(MaxUnknowns) {
		if !slices.Contains(order, k) {
			return false
		}
	}
	return true
}

// RenameTerm returns the term with other unknowns.
func RenameTerm(t string, order []int64) (string, int64) {
	if !ValidTerm(t) {
		return "", ErrInvalid
	}
	if !isOrder(order) {
		return "", ErrRange
	}
	var b strings.Builder
	for _, s := range symbolsOf(t) {
		if x, ok := s.(unknownSymbol); ok {
			s = unknownSymbol(order[x])
		}
		b.WriteString(s.text())
	}
	return b.String(), OK
}

// TurnTerm returns the term in the opposite order.
func TurnTerm(t string) (string, int64) {
	if !ValidTerm(t) {
		return "", ErrInvalid
	}
	var b strings.Builder
	for _, s := range slices.Backward(symbolsOf(t)) {
		b.WriteString(s.text())
	}
	return b.String(), OK
}

// lengthSearch goes through the lengths of values by which a term becomes a word.
type lengthSearch struct {
	counts  [symbolKinds]int64
	lengths [MaxUnknowns]int64
}

// fill goes through the lengths of the unknowns from x on, rest letters being left for them.
// It returns false when no more lengths are asked for.
func (f *lengthSearch) fill(x unknownSymbol, rest int64, yield func([MaxUnknowns]int64) bool) bool {
	if x == MaxUnknowns {
		return rest != 0 || yield(f.lengths)
	}
	count := f.counts[x.kind()]
	// Any length would do for an unknown that does not occur, so it must not be tried.
	if count == 0 {
		return f.fill(x+1, rest, yield)
	}
	for n := int64(0); n*count <= rest; n++ {
		f.lengths[x] = n
		if !f.fill(x+1, rest-n*count, yield) {
			return false
		}
	}
	return true
}

// lengthsToGet returns the lengths of values by which a valid term gets so many letters.
func lengthsToGet(t string, letters int) iter.Seq[[MaxUnknowns]int64] {
	return func(yield func([MaxUnknowns]int64) bool) {
		search := lengthSearch{counts: kindCounts(t)}
		rest := int64(letters)
		for k := range letterSymbol(len(letterTexts)) {
			rest -= search.counts[k.kind()]
		}
		if rest >= 0 {
			search.fill(0, rest, yield)
		}
	}
}

// matchesFound returns the matches of a valid term and a valid word, each once, in the order of their lengths.
func matchesFound(t, w string) iter.Seq[[MaxUnknowns]string] {
	return func(yield func([MaxUnknowns]string) bool) {
		symbols := symbolsOf(t)
	search:
		for lengths := range lengthsToGet(t, len(w)) {
			var values [MaxUnknowns]string
			rest := w
			for _, s := range symbols {
				part := s.text()
				if x, ok := s.(unknownSymbol); ok {
					part = rest[:lengths[x]]
					// Its length being fixed, an empty value is empty everywhere, or met here first.
					if values[x] != "" && values[x] != part {
						continue search
					}
					values[x] = part
				} else if !strings.HasPrefix(rest, part) {
					continue search
				}
				rest = rest[len(part):]
			}
			if !yield(values) {
				break search
			}
		}
	}
}

// MatchesOf returns all values by which a term becomes a word.
func MatchesOf(t, w string) ([][]string, int64) {
	if !ValidTerm(t) || !ValidWord(w) {
		return nil, ErrInvalid
	}
	var list [][]string
	for values := range matchesFound(t, w) {
		if len(list) == MaxMatches {
			return nil, ErrLimit
		}
		list = append(list, slices.Clone(values[:]))
	}
	slices.SortFunc(list, slices.Compare[[]string])
	return list, OK
}

// FirstMatch returns the first values by which a term becomes a word.
func FirstMatch(t, w string) ([]string, int64) {
	if !ValidTerm(t) || !ValidWord(w) {
		return nil, ErrInvalid
	}
	var first []string
	for values := range matchesFound(t, w) {
		if first == nil || slices.Compare(values[:], first) < 0 {
			first = slices.Clone(values[:])
		}
	}
	if first == nil {
		return nil, ErrNotFound
	}
	return first, OK
}

// IsLinear reports whether no unknown occurs twice.
func IsLinear(t string) (bool, int64) {
	if !ValidTerm(t) {
		return false, ErrInvalid
	}
	counts := kindCounts(t)
	return slices.Max(counts[len(letterTexts):]) <= 1, OK
}
