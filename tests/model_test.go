package tests

import (
	"math/rand"
	"slices"
	"strconv"
	"strings"

	"loop.example/stackwords/impl"
)

// This is chapter 2 once more, done with texts instead of numbers, so that the tests have something to hold the program against.

// takes has what each operation takes, the upper one last: n for a number, p for a program, a for any value.
var takes = map[string]string{
	"dup": "a", "drop": "a", "swap": "aa", "dip": "ap", "call": "p",
	"+": "nn", "-": "nn", "*": "nn", "<": "nn", "if": "npp", "times": "np",
}

var wordsByText = wordOf()

// words reads a text without ReadProg, and whether or not its brackets fit; "" has none.
func words(text string) []int {
	p := []int{}
	for _, s := range strings.Fields(text) {
		w, ok := wordsByText[s]
		if !ok {
			panic(s)
		}
		p = append(p, w)
	}
	return p
}

// written is the text of any row of words.
func written(p []int) string {
	var texts []string
	for _, w := range p {
		if text, ok := wordTexts[w]; ok {
			texts = append(texts, text)
		} else {
			texts = append(texts, strconv.Itoa(w))
		}
	}
	return strings.Join(texts, " ")
}

// values reads a stack whose values stand between commas; "" is the empty one.
func values(text string) [][]int {
	s := [][]int{}
	if text == "" {
		return s
	}
	for _, v := range strings.Split(text, ",") {
		s = append(s, words(v))
	}
	return s
}

func isProg(v string) bool {
	return strings.HasPrefix(v, "[")
}

func inside(v string) []string {
	list := strings.Fields(v)
	return list[1 : len(list)-1]
}

// firstPart returns how many words the first part of a rest has.
func firstPart(rest []string) int {
	open := 0
	for i, s := range rest {
		open += strings.Count(s, "[") - strings.Count(s, "]")
		if open == 0 {
			return i + 1
		}
	}
	panic("open")
}

// modelStep returns the rest and the stack behind a step, and whether it can be done.
func modelStep(rest, stack []string) ([]string, []string, bool) {
	if len(rest) == 0 {
		return nil, nil, false
	}
	many := firstPart(rest)
	part, rest := rest[:many], rest[many:]
	kinds, isOp := takes[part[0]]
	put, ahead := []string{strings.Join(part, " ")}, []string{}
	if isOp {
		below := len(stack) - len(kinds)
		if below < 0 {
			return nil, nil, false
		}
		in := stack[below:]
		stack = stack[:below]
		for i, kind := range kinds {
			if kind != 'a' && isProg(in[i]) != (kind == 'p') {
				return nil, nil, false
			}
		}
		put, ahead = modelDo(part[0], in)
	}
	stack = slices.Concat(stack, put)
	for _, v := range stack {
		if len(strings.Fields(v)) > 60 {
			return nil, nil, false
		}
	}
	return slices.Concat(ahead, rest), stack, len(stack) <= 20
}

// modelDo returns what an operation puts on the stack, and ahead of the rest.
func modelDo(op string, in []string) (put, ahead []string) {
	switch op {
	case "dup":
		return []string{in[0], in[0]}, nil
	case "drop":
		return nil, nil
	case "swap":
		return []string{in[1], in[0]}, nil
	case "dip":
		return nil, append(inside(in[1]), strings.Fields(in[0])...)
	case "call":
		return nil, inside(in[0])
	case "if":
		if in[0] != "0" {
			return nil, inside(in[1])
		}
		return nil, inside(in[2])
	case "times":
		n, _ := strconv.Atoi(in[0])
		if n == 0 {
			return nil, nil
		}
		return nil, slices.Concat(inside(in[1]), []string{strconv.Itoa(n - 1)}, strings.Fields(in[1]), []string{"times"})
	}
	a, _ := strconv.Atoi(in[0])
	b, _ := strconv.Atoi(in[1])
	c := 0
	switch op {
	case "+":
		c = a + b
	case "-":
		c = a - b
	case "*":
		c = a * b
	case "<":
		if a < b {
			c = 1
		}
	}
	for c < 0 {
		c += 1000
	}
	return []string{strconv.Itoa(c % 1000)}, nil
}

// modelRun returns what a program leaves, and its steps; it ends behind 2000 of them.
func modelRun(p []int, s [][]int) ([][]int, int, bool) {
	rest, stack := strings.Fields(written(p)), stackTexts(s)
	steps, ok := 0, true
	for len(rest) > 0 {
		rest, stack, ok = modelStep(rest, stack)
		if !ok || steps == 2000 {
			return nil, 0, false
		}
		steps++
	}
	return stackOf(stack), steps, true
}

func stackTexts(s [][]int) []string {
	texts := []string{}
	for _, v := range s {
		texts = append(texts, written(v))
	}
	return texts
}

func stackOf(texts []string) [][]int {
	s := [][]int{}
	for _, text := range texts {
		s = append(s, words(text))
	}
	return s
}

// drawnValue returns a number, often a small one, or a program in brackets of a few words.
func drawnValue(r *rand.Rand) []int {
	switch r.Intn(5) {
	case 0:
		return []int{r.Intn(impl.MaxNum + 1)}
	case 1, 2:
		return []int{r.Intn(4)}
	case 3:
		return words("[ " + []string{"", "1", "dup", "drop", "swap", "+", "[ ]", "1 +", "dup *", "3 <", "[ 2 ]", "[ swap ] dip", "dup call"}[r.Intn(13)] + " ]")
	}
	return slices.Concat(words("["), drawn(r, 8), words("]"))
}

func drawnStack(r *rand.Rand, most int) [][]int {
	s := [][]int{}
	for range r.Intn(most + 1) {
		s = append(s, drawnValue(r))
	}
	return s
}

// drawnRun returns a program that is told on a stack: of the parts that are drawn only those are kept behind which it still is.
func drawnRun(r *rand.Rand, s [][]int, tries int) []int {
	p := []int{}
	for range tries {
		part := []int{impl.OpDup + r.Intn(impl.OpOpen-impl.OpDup)}
		if r.Intn(3) == 0 {
			part = drawnValue(r)
		}
		left, steps, ok := modelRun(part, s)
		if ok && len(p)+len(part) <= impl.MaxWords && steps < 50 {
			p, s = slices.Concat(p, part), left
		}
	}
	return p
}
