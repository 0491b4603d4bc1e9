package tests

import (
	"math/rand"
	"slices"
	"strconv"
	"strings"

	"loop.example/stackwords/impl"
)

// This is chapter 5 once more: its rules as texts with letters, so that the tests have something to hold the program against.

// textRule puts To for From. In these v and w are values, n and m numbers, k a number that is not 0, l the number less 1, p and q programs in brackets, P and Q what is in these, and s what the operation makes of n and m; all else stands for itself.
type textRule struct {
	which    int
	from, to string
}

var textRules = []textRule{
	{0, "v drop", ""}, {1, "v dup", "v v"}, {2, "v w swap", "w v"}, {3, "p call", "P"}, {4, "v p dip", "P v"},
	{5, "n m +", "s"}, {5, "n m -", "s"}, {5, "n m *", "s"}, {5, "n m <", "s"},
	{6, "k p q if", "P"}, {6, "0 p q if", "Q"}, {7, "0 p times", ""}, {8, "k p times", "P l p times"},
}

// bound returns what the letters of a rule stand for at the first of these parts, and whether it fits there.
func bound(rule textRule, parts []string) (map[string]string, bool) {
	stands := map[string]string{}
	for i, letter := range strings.Fields(rule.from) {
		if i == len(parts) {
			return nil, false
		}
		part := parts[i]
		_, err := strconv.Atoi(part)
		isNum := err == nil
		fits := false
		switch letter {
		case "v", "w":
			fits = isNum || isProg(part)
		case "n", "m":
			fits = isNum
		case "k":
			fits = isNum && part != "0"
		case "p", "q":
			fits = isProg(part)
		default:
			fits = part == letter
		}
		if !fits {
			return nil, false
		}
		stands[letter] = part
		switch letter {
		case "k":
			k, _ := strconv.Atoi(part)
			stands["l"] = strconv.Itoa(k - 1)
		case "p", "q":
			stands[strings.ToUpper(letter)] = strings.Join(inside(part), " ")
		case "+", "-", "*", "<":
			put, _ := modelDo(letter, []string{stands["n"], stands["m"]})
			stands["s"] = put[0]
		}
	}
	return stands, true
}

func partTexts(p []int) []string {
	var parts []string
	for rest := strings.Fields(written(p)); len(rest) > 0; {
		many := firstPart(rest)
		parts = append(parts, strings.Join(rest[:many], " "))
		rest = rest[many:]
	}
	return parts
}

func modelMove(p []int, m impl.Move) ([]int, bool) {
	return moveOfTexts(partTexts(p), m)
}

// moveOfTexts tries every rule that has this number, one after the other.
func moveOfTexts(parts []string, m impl.Move) ([]int, bool) {
	if m.At < 0 || m.At > len(parts) {
		return nil, false
	}
	for _, rule := range textRules {
		if rule.which != m.Which {
			continue
		}
		stands, ok := bound(rule, parts[m.At:])
		if !ok {
			continue
		}
		put := []string{}
		for _, letter := range strings.Fields(rule.to) {
			if text, ok := stands[letter]; ok {
				letter = text
			}
			put = append(put, letter)
		}
		behind := m.At + len(strings.Fields(rule.from))
		next := words(strings.Join(slices.Concat(parts[:m.At], put, parts[behind:]), " "))
		return next, len(next) <= 60
	}
	return nil, false
}

// modelMoves returns all moves that can be done, those with the least At first, and of these those with the least Which.
func modelMoves(p []int) []impl.Move {
	var moves []impl.Move
	parts := partTexts(p)
	for at := range parts {
		for which := range 9 {
			m := impl.Move{Which: which, At: at}
			if _, ok := moveOfTexts(parts, m); ok {
				moves = append(moves, m)
			}
		}
	}
	return moves
}

func modelSimple(p []int) ([]int, []impl.Move) {
	var moves []impl.Move
	for len(moves) < 100 {
		more := modelMoves(p)
		if len(more) == 0 {
			break
		}
		p, _ = modelMove(p, more[0])
		moves = append(moves, more[0])
	}
	return p, moves
}

// drawnMoves returns at most so many moves that can be done one after the other, and where they lead.
func drawnMoves(r *rand.Rand, p []int, most int) ([]int, []impl.Move) {
	var moves []impl.Move
	for len(moves) < most {
		more := modelMoves(p)
		if len(more) == 0 {
			break
		}
		m := more[r.Intn(len(more))]
		p, _ = modelMove(p, m)
		moves = append(moves, m)
	}
	return p, moves
}

// drawnRule returns a program to which a rule can be used.
func drawnRule(r *rand.Rand) []int {
	p := []int{}
	for _, letter := range strings.Fields(textRules[r.Intn(len(textRules))].from) {
		switch letter {
		case "v", "w":
			p = append(p, drawnValue(r)...)
		case "n", "m":
			p = append(p, r.Intn(impl.MaxNum+1))
		case "k":
			p = append(p, 1+r.Intn(3))
		case "p", "q":
			inside := words([]string{"", "1", "dup", "drop", "1 +", "dup *", "swap", "[ 2 ]", "1 drop", "3 4", "[ swap ] dip"}[r.Intn(11)])
			p = append(p, quoted(inside)...)
		default:
			p = append(p, words(letter)...)
		}
	}
	return p
}

// drawnRuled returns a program of several such, and of other parts between them.
func drawnRuled(r *rand.Rand, most int) []int {
	p := []int{}
	for {
		part := drawnRule(r)
		if r.Intn(3) == 0 {
			part = drawn(r, 6)
		}
		if len(p)+len(part) > most || r.Intn(8) == 0 {
			return p
		}
		p = append(p, part...)
	}
}
