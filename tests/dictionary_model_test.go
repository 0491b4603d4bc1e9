package tests

import (
	"math/rand"
	"slices"
	"strings"

	"loop.example/stackwords/impl"
)

// This is chapter 9 once more: a program is a text that has one letter for each word, so that texts are counted and replaced by package strings, and the tests have something to hold the program against.

// named reads a text in which A to F are names; G is the one behind the last one of the largest dictionary.
func named(text string) []int {
	p := []int{}
	for _, s := range strings.Fields(text) {
		if len(s) == 1 && s[0] >= 'A' && s[0] <= 'G' {
			p = append(p, 1101+int(s[0]-'A'))
		} else {
			p = append(p, words(s)...)
		}
	}
	return p
}

// dict reads the programs of a dictionary.
func dict(texts ...string) [][]int {
	d := [][]int{}
	for _, text := range texts {
		d = append(d, named(text))
	}
	return d
}

// namedText writes what named reads, and other rows as well.
func namedText(p []int) string {
	var texts []string
	for _, w := range p {
		if w >= 1101 && w <= 1107 {
			texts = append(texts, "ABCDEFG"[w-1101:w-1100])
		} else {
			texts = append(texts, written([]int{w}))
		}
	}
	return strings.Join(texts, " ")
}

func dictText(d [][]int) string {
	var texts []string
	for _, p := range d {
		texts = append(texts, "("+namedText(p)+")")
	}
	return strings.Join(texts, " ")
}

func sameDict(d, e [][]int) bool {
	return slices.EqualFunc(d, e, same)
}

const firstLetter = 'a'

// asLetters is for words from 0 on, and not for much greater ones than names.
func asLetters(p []int) string {
	var b strings.Builder
	for _, w := range p {
		b.WriteRune(rune(firstLetter + w))
	}
	return b.String()
}

func ofLetters(s string) []int {
	p := []int{}
	for _, letter := range s {
		p = append(p, int(letter-firstLetter))
	}
	return p
}

func nameLetter(i int) string {
	return asLetters([]int{1101 + i})
}

// modelUsesFirst replaces the names that may be used by a number, one after the other.
func modelUsesFirst(many int, p []int) bool {
	if len(p) > 60 {
		return false
	}
	p = slices.Clone(p)
	for name := 1101; name < 1101+many; name++ {
		for at := slices.Index(p, name); at >= 0; at = slices.Index(p, name) {
			p[at] = 0
		}
	}
	for _, w := range p {
		if _, ok := wordTexts[w]; !ok && (w < 0 || w > 999) {
			return false
		}
	}
	return fits(p)
}

func modelDictValid(d [][]int) bool {
	for i, p := range d {
		if i == 6 || !modelUsesFirst(i, p) {
			return false
		}
	}
	return true
}

func modelUsesOk(d [][]int, p []int) bool {
	return modelDictValid(d) && modelUsesFirst(len(d), p)
}

// modelMany returns how many words a program means; they are counted ahead, as they may be many millions.
func modelMany(d [][]int, p []int) int {
	many := 0
	for i := range d {
		if times := strings.Count(asLetters(p), nameLetter(i)); times > 0 {
			many += times * modelMany(d, d[i])
		}
	}
	for _, w := range p {
		if w < 1101 {
			many++
		}
	}
	return many
}

// modelMeans begins at the program, and goes into the names that stand in it.
func modelMeans(d [][]int, p []int) ([]int, bool) {
	if !modelUsesOk(d, p) || modelMany(d, p) > 60 {
		return nil, false
	}
	text := asLetters(p)
	for i := range d {
		if strings.Contains(text, nameLetter(i)) {
			in, _ := modelMeans(d, d[i])
			text = strings.ReplaceAll(text, nameLetter(i), asLetters(in))
		}
	}
	return ofLetters(text), true
}

func modelNames(d [][]int, p []int) []int {
	often := []int{}
	for i := range d {
		often = append(often, strings.Count(asLetters(p), nameLetter(i)))
	}
	return often
}

// modelTwice tries every row of the program, and keeps the best one.
func modelTwice(p []int) ([]int, bool) {
	text := asLetters(p)
	best := []int{}
	for from := range p {
		for to := from + 2; to <= len(p); to++ {
			if row := p[from:to]; len(row) > len(best) && strings.Count(text, asLetters(row)) >= 2 && fits(row) {
				best = row
			}
		}
	}
	return best, len(best) > 0
}

func modelGive(d [][]int, p []int) ([][]int, []int, bool) {
	row, ok := modelTwice(p)
	if !ok || len(d) > 5 {
		return nil, nil, false
	}
	text := strings.ReplaceAll(asLetters(p), asLetters(row), nameLetter(len(d)))
	return append(slices.Clone(d), row), ofLetters(text), true
}

func modelPut(d [][]int, p []int) ([][]int, []int, bool) {
	if len(d) == 0 {
		return nil, nil, false
	}
	last := len(d) - 1
	put := ofLetters(strings.ReplaceAll(asLetters(p), nameLetter(last), asLetters(d[last])))
	if len(put) > 60 {
		return nil, nil, false
	}
	return d[:last], put, true
}

func modelNameEffect(d [][]int, p []int) (impl.Effect, bool) {
	means, ok := modelMeans(d, p)
	if !ok {
		return impl.Effect{}, false
	}
	return modelEffect(means)
}

// drawnUses returns a program of at most so many words, with names of the first so many programs.
func drawnUses(r *rand.Rand, names, most int) []int {
	p := drawn(r, r.Intn(most+1))
	for i, w := range p {
		if w != impl.OpOpen && w != impl.OpEnd && names > 0 && r.Intn(2) == 0 {
			p[i] = impl.NameFirst + r.Intn(names)
		}
	}
	return p
}

// drawnDict returns a valid dictionary of programs of at most so many words.
func drawnDict(r *rand.Rand, most int) [][]int {
	d := [][]int{}
	for range r.Intn(impl.MaxNames + 1) {
		d = append(d, drawnUses(r, len(d), most))
	}
	return d
}

// drawnRepeats returns a program with names of at most so many words, of which rows stand again and again.
func drawnRepeats(r *rand.Rand, names, most int) []int {
	p := []int{}
	for range 2 + r.Intn(8) {
		part := drawnUses(r, names, 4)
		if at := r.Intn(len(p) + 1); r.Intn(3) > 0 {
			part = p[at:min(at+1+r.Intn(12), len(p))]
		}
		if len(p)+len(part) <= most && fits(part) {
			p = slices.Concat(p, part)
		}
	}
	return p
}

// drawnKinds returns a program of only a few kinds of words.
func drawnKinds(r *rand.Rand, names, most int) []int {
	for {
		kinds := []int{1, impl.OpDup, impl.OpOpen, impl.OpEnd}[r.Intn(3):]
		if names > 0 && r.Intn(2) == 0 {
			kinds = append(slices.Clone(kinds), impl.NameFirst+r.Intn(names))
		}
		p := []int{}
		for range r.Intn(most + 1) {
			p = append(p, kinds[r.Intn(len(kinds))])
		}
		if fits(p) {
			return p
		}
	}
}

// drawnPhrases returns a program with names that often has an effect.
func drawnPhrases(r *rand.Rand, names, most int) []int {
	phrases := []string{"1", "2 3", "dup *", "swap", "drop", "+", "1 +", "[ dup ] dip", "[ swap ] dip", "[ 2 * ] call", "[ ]", "3 [ 1 + ] times", "<", "[ 1 ] [ 2 ] if", "call"}
	p := []int{}
	for range r.Intn(most + 1) {
		part := words(phrases[r.Intn(len(phrases))])
		if names > 0 && r.Intn(2) == 0 {
			part = []int{impl.NameFirst + r.Intn(names)}
			if r.Intn(4) == 0 {
				part = underOne(part)
			}
		}
		p = append(p, part...)
	}
	return p[:lastFit(p)]
}

// lastFit returns how many words the longest program has with which a row of at most MaxWords of its words begins.
func lastFit(p []int) int {
	many := min(len(p), impl.MaxWords)
	for !fits(p[:many]) {
		many--
	}
	return many
}
