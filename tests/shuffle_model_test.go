package tests

import (
	"math/rand"
	"slices"
	"strings"

	"loop.example/stackwords/impl"
)

// This is chapter 7 once more: values are the letters of a text, and brackets are gone into part by part, so that the tests have something to hold the program against.

// letters are so many values, the lowest one first.
func letters(many int) string {
	return "abcde"[:many]
}

func placesIn(s string) []int {
	places := []int{}
	for _, letter := range s {
		places = append(places, int(letter-'a'))
	}
	return places
}

func isMove(part string) bool {
	return part == "dup" || part == "drop" || part == "swap"
}

func modelIsShuffle(p []int) bool {
	return fits(p) && isShuffleOfTexts(partTexts(p))
}

func isShuffleOfTexts(parts []string) bool {
	if len(parts) == 0 {
		return true
	}
	if isMove(parts[0]) {
		return isShuffleOfTexts(parts[1:])
	}
	return isProg(parts[0]) && len(parts) > 1 && parts[1] == "dip" && isShuffleOfTexts(within(parts[0])) && isShuffleOfTexts(parts[2:])
}

// within returns the parts of a program in brackets.
func within(part string) []string {
	return partTexts(words(strings.Join(inside(part), " ")))
}

// modelMoved returns what the parts of a shuffle leave of letters, however many these become, and whether there are as many as they take.
func modelMoved(parts []string, s string) (string, bool) {
	for i, part := range parts {
		least := map[string]int{"dup": 1, "drop": 1, "swap": 2, "dip": 1}[part]
		if len(s) < least {
			return "", false
		}
		below := len(s) - least
		switch part {
		case "dup":
			s += s[below:]
		case "drop":
			s = s[:below]
		case "swap":
			s = s[:below] + s[below+1:] + s[below:below+1]
		case "dip":
			left, ok := modelMoved(within(parts[i-1]), s[:below])
			if !ok {
				return "", false
			}
			s = left + s[below:]
		}
	}
	return s, true
}

func modelPlaces(p []int, many int) ([]int, bool) {
	if many < 0 || many > 5 {
		return nil, false
	}
	s, ok := modelMoved(partTexts(p), letters(many))
	if !ok || len(s) > 20 {
		return nil, false
	}
	return placesIn(s), true
}

func modelTakes(p []int) int {
	for many := range 6 {
		if _, ok := modelPlaces(p, many); ok {
			return many
		}
	}
	return -1
}

func modelUnder(many int, op string) string {
	if many == 0 {
		return op
	}
	return "[ " + modelUnder(many-1, op) + " ] dip"
}

// modelShuffle is for rows of places that are in order.
func modelShuffle(many int, places []int) ([]int, bool) {
	var ops []string
	there := []int{}
	for place := range many {
		above, times := many-place-1, 0
		for _, p := range places {
			if p == place {
				times++
				there = append(there, place)
			}
		}
		if times == 0 {
			ops = append(ops, modelUnder(above, "drop"))
		}
		for ; times > 1; times-- {
			ops = append(ops, modelUnder(above, "dup"))
		}
	}
	for at, place := range places {
		for there[at] != place {
			next := at + 1
			for there[next] != place {
				next++
			}
			for ; next > at; next-- {
				there[next-1], there[next] = there[next], there[next-1]
				ops = append(ops, modelUnder(len(there)-next-1, "swap"))
			}
		}
	}
	p := words(strings.Join(ops, " "))
	return p, len(p) <= 60
}

// rowsFor returns all rows of at most MaxPlaces places of so many values.
func rowsFor(many int) [][]int {
	return rowsOf(placesIn(letters(many)), impl.MaxPlaces)
}

func drawnPlaces(r *rand.Rand, many int) []int {
	places := []int{}
	if many > 0 {
		for range r.Intn(impl.MaxPlaces + 1) {
			places = append(places, r.Intn(many))
		}
	}
	return places
}

// drawnShuffle returns a shuffle of at most so many words.
func drawnShuffle(r *rand.Rand, most int) []int {
	p := []int{}
	for len(p) < most && r.Intn(15) > 0 {
		part := []int{impl.OpDup + r.Intn(3)}
		if r.Intn(4) == 0 && most-len(p) >= 3 {
			part = underOne(drawnShuffle(r, most-len(p)-3))
		}
		p = slices.Concat(p, part)
	}
	return p
}

// underOne returns a program in brackets with OpDip behind it.
func underOne(p []int) []int {
	return append(quoted(p), impl.OpDip)
}

// deep does a word under so many values, as modelUnder does it.
func deep(many int, op string) []int {
	return words(modelUnder(many, op))
}
