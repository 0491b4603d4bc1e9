package tests

import (
	"math/rand"
	"slices"
	"strconv"
	"strings"

	"loop.example/stackwords/impl"
)

// This is chapter 3 once more, done with rows of numbers in which letters are replaced one by one, so that the tests have something to hold the program against.

// rowText reads a row from the beginning of pieces, up to an arrow, a bracket or the end.
func rowText(pieces []string) (row []int, rest []string) {
	row = []int{3, numberIn(pieces[0], "r")}
	pieces = pieces[1:]
	for len(pieces) > 0 && pieces[0] != "->" && pieces[0] != ")" {
		var value []int
		switch piece := pieces[0]; {
		case piece == "n":
			value, pieces = []int{0}, pieces[1:]
		case piece == "(":
			var needed, left []int
			needed, pieces = rowText(pieces[1:])
			left, pieces = rowText(pieces[1:])
			value, pieces = slices.Concat([]int{2}, needed, left), pieces[1:]
		default:
			value, pieces = []int{1, numberIn(piece, "t")}, pieces[1:]
		}
		row = slices.Concat([]int{4}, row, value)
	}
	return row, pieces
}

func numberIn(piece, letter string) int {
	n, err := strconv.Atoi(strings.TrimPrefix(piece, letter))
	if err != nil || !strings.HasPrefix(piece, letter) {
		panic(piece)
	}
	return n
}

func piecesOf(text string) []string {
	return strings.Fields(strings.NewReplacer("(", " ( ", ")", " ) ").Replace(text))
}

// rowIn reads a text such as r0 n t0 (r0 -> r1); its letters may have any numbers.
func rowIn(text string) []int {
	row, rest := rowText(piecesOf(text))
	if len(rest) > 0 {
		panic(text)
	}
	return row
}

// effect reads a text such as r0 t0 -> r0 t0 t0; its letters may have any numbers.
func effect(text string) impl.Effect {
	in, rest := rowText(piecesOf(text))
	out, rest := rowText(rest[1:])
	if len(rest) > 0 {
		panic(text)
	}
	return impl.Effect{In: in, Out: out}
}

// termLen returns how many numbers the row or type has that numbers begin with.
func termLen(numbers []int) int {
	at := 0
	for missing := 1; missing > 0; missing-- {
		switch numbers[at] {
		case 1, 3:
			at++
		case 2, 4:
			missing += 2
		}
		at++
	}
	return at
}

func isLetter(term []int) bool {
	return term[0] == 1 || term[0] == 3
}

// partsOf returns the two parts of a row with a value, and of a program.
func partsOf(term []int) (first, second []int) {
	to := 1 + termLen(term[1:])
	return term[1:to], term[to:]
}

func modelRowText(row []int) string {
	if row[0] == 3 {
		return "r" + strconv.Itoa(row[1])
	}
	below, value := partsOf(row)
	text := modelRowText(below)
	switch value[0] {
	case 0:
		return text + " n"
	case 1:
		return text + " t" + strconv.Itoa(value[1])
	}
	needed, left := partsOf(value)
	return text + " (" + modelRowText(needed) + " -> " + modelRowText(left) + ")"
}

func modelText(e impl.Effect) string {
	return modelRowText(e.In) + " -> " + modelRowText(e.Out)
}

// replaced returns a row or type with each of its letters replaced by what it stands for.
func replaced(term []int, by func(letter [2]int) []int) []int {
	var numbers []int
	for at := 0; at < len(term); at++ {
		if isLetter(term[at:]) {
			numbers = append(numbers, by([2]int{term[at], term[at+1]})...)
			at++
		} else {
			numbers = append(numbers, term[at])
		}
	}
	return numbers
}

func lettersOf(term []int) [][2]int {
	var letters [][2]int
	replaced(term, func(letter [2]int) []int {
		letters = append(letters, letter)
		return nil
	})
	return letters
}

// inOrder names the letters of an effect in order.
func inOrder(e impl.Effect) impl.Effect {
	names, next := map[[2]int]int{}, map[int]int{}
	name := func(letter [2]int) []int {
		if _, ok := names[letter]; !ok {
			names[letter] = next[letter[0]]
			next[letter[0]]++
		}
		return []int{letter[0], names[letter]}
	}
	in := replaced(e.In, name)
	return impl.Effect{In: in, Out: replaced(e.Out, name)}
}

// modelThen keeps a list of what each letter is replaced by, behind the rows of the result, and replaces every letter in all of them at once.
func modelThen(e, f impl.Effect) (impl.Effect, bool) {
	other := func(letter [2]int) []int { return []int{letter[0], letter[1] + 5000} }
	fIn, fOut := replaced(f.In, other), replaced(f.Out, other)
	kept := [][]int{e.In, fOut}
	for _, row := range [][]int{e.In, e.Out, fIn, fOut} {
		for _, letter := range lettersOf(row) {
			kept = append(kept, letter[:])
		}
	}
	pairs := [][2][]int{{e.Out, fIn}}
	for len(pairs) > 0 {
		a, b := pairs[0][0], pairs[0][1]
		pairs = pairs[1:]
		switch {
		case slices.Equal(a, b):
			continue
		case isLetter(b) && !isLetter(a):
			a, b = b, a
		case !isLetter(a) && (a[0] != b[0] || a[0] == 0):
			return impl.Effect{}, false
		}
		if !isLetter(a) {
			a1, a2 := partsOf(a)
			b1, b2 := partsOf(b)
			pairs = append(pairs, [2][]int{a1, b1}, [2][]int{a2, b2})
			continue
		}
		letter := [2]int{a[0], a[1]}
		if slices.Contains(lettersOf(b), letter) {
			return impl.Effect{}, false
		}
		by := func(l [2]int) []int {
			if l == letter {
				return b
			}
			return l[:]
		}
		for i, p := range pairs {
			pairs[i] = [2][]int{replaced(p[0], by), replaced(p[1], by)}
		}
		for i, term := range kept {
			kept[i] = replaced(term, by)
			if len(kept[i]) > 300 { // in the end it has at least half as many, as a letter has two numbers
				return impl.Effect{}, false
			}
		}
	}
	for _, term := range kept {
		if len(term) > 150 {
			return impl.Effect{}, false
		}
	}
	return inOrder(impl.Effect{In: kept[0], Out: kept[1]}), true
}

// modelGeneral reads from the first places of letters what they stand for, and then puts this at all places.
func modelGeneral(e, f impl.Effect) bool {
	stands := map[[2]int][]int{}
	for _, rows := range [][2][]int{{e.In, f.In}, {e.Out, f.Out}} {
		general, special := rows[0], rows[1]
		for len(general) > 0 {
			many := 1
			if isLetter(general) {
				letter := [2]int{general[0], general[1]}
				many = termLen(special)
				if _, ok := stands[letter]; !ok {
					stands[letter] = special[:many]
				}
				general = general[1:]
			} else if general[0] != special[0] {
				return false
			}
			general, special = general[1:], special[many:]
		}
	}
	by := func(letter [2]int) []int { return stands[letter] }
	return slices.Equal(replaced(e.In, by), f.In) && slices.Equal(replaced(e.Out, by), f.Out)
}

// drawnRow returns a row with about so many values, and letters of small numbers.
func drawnRow(r *rand.Rand, most, depth int) []int {
	row := []int{3, r.Intn(2)}
	if r.Intn(4) == 0 {
		row[1] = r.Intn(5)
	}
	for range r.Intn(most + 1) {
		row = slices.Concat([]int{4}, row, drawnType(r, depth))
	}
	return row
}

func drawnType(r *rand.Rand, depth int) []int {
	switch n := r.Intn(6); {
	case n < 2:
		return []int{0}
	case n < 5 || depth == 0:
		return []int{1, r.Intn(3)}
	}
	return slices.Concat([]int{2}, drawnRow(r, 2, depth-1), drawnRow(r, 2, depth-1))
}

func drawnEffect(r *rand.Rand) impl.Effect {
	return inOrder(impl.Effect{In: drawnRow(r, 4, 2), Out: drawnRow(r, 4, 2)})
}

// special returns an effect with some letters replaced by what is drawn.
func special(r *rand.Rand, e impl.Effect) impl.Effect {
	stands := map[[2]int][]int{}
	by := func(letter [2]int) []int {
		if _, ok := stands[letter]; !ok {
			stands[letter] = letter[:]
			if r.Intn(2) == 0 {
				stands[letter] = drawnType(r, 1)
				if letter[0] == 3 {
					stands[letter] = drawnRow(r, 2, 1)
				}
			}
		}
		return stands[letter]
	}
	in := replaced(e.In, by)
	return inOrder(impl.Effect{In: in, Out: replaced(e.Out, by)})
}
