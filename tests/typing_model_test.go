package tests

import (
	"math/rand"
	"slices"
	"strings"

	"loop.example/stackwords/impl"
)

// This is chapter 4 once more, made of the second versions of chapters 2 and 3, so that the tests have something to hold the program against.

// effectOfWord has the effects of the operations; numbers have r0 -> r0 n.
var effectOfWord = map[string]string{
	"dup": "r0 t0 -> r0 t0 t0", "drop": "r0 t0 -> r0", "swap": "r0 t0 t1 -> r0 t1 t0",
	"dip": "r0 t0 (r0 -> r1) -> r1 t0", "call": "r0 (r0 -> r1) -> r1",
	"+": "r0 n n -> r0 n", "-": "r0 n n -> r0 n", "*": "r0 n n -> r0 n", "<": "r0 n n -> r0 n",
	"if": "r0 n (r0 -> r1) (r0 -> r1) -> r1", "times": "r0 n (r0 -> r0) -> r0",
}

func modelEffect(p []int) (impl.Effect, bool) {
	return effectOfTexts(strings.Fields(written(p)))
}

func effectOfTexts(rest []string) (impl.Effect, bool) {
	e := effect(nothing)
	for len(rest) > 0 {
		many := firstPart(rest)
		part, ok := effectOfPart(rest[:many])
		if !ok {
			return impl.Effect{}, false
		}
		if e, ok = modelThen(e, part); !ok {
			return impl.Effect{}, false
		}
		rest = rest[many:]
	}
	return e, true
}

func effectOfPart(part []string) (impl.Effect, bool) {
	if part[0] != "[" {
		if text, ok := effectOfWord[part[0]]; ok {
			return effect(text), true
		}
		return effect("r0 -> r0 n"), true
	}
	e, ok := effectOfTexts(part[1 : len(part)-1])
	if !ok {
		return impl.Effect{}, false
	}
	farther := func(letter [2]int) []int {
		if letter[0] == 3 {
			letter[1]++
		}
		return letter[:]
	}
	return effect("r0 -> r0 (" + modelText(impl.Effect{In: replaced(e.In, farther), Out: replaced(e.Out, farther)}) + ")"), true
}

// modelStop tells that there are too many values by doing the same step with no more than the three upper ones, of which none takes more.
func modelStop(p []int, s [][]int) (int, int) {
	rest, stack := strings.Fields(written(p)), stackTexts(s)
	for steps := 0; len(rest) > 0; steps++ {
		nextRest, next, ok := modelStep(rest, stack)
		if !ok {
			_, _, few := modelStep(rest, stack[max(0, len(stack)-3):])
			return map[bool]int{false: 1, true: 3}[few], steps
		}
		if steps == 2000 {
			return 2, 2000
		}
		rest, stack = nextRest, next
	}
	steps := 0
	_, steps, _ = modelRun(p, s)
	return 0, steps
}

// modelCount tries with more and more values until there are enough for each word.
func modelCount(p []int) (int, int) {
	for needed := 0; ; needed++ {
		there, enough := needed, true
		for _, text := range strings.Fields(written(p)) {
			switch text {
			case "dup", "drop":
				enough = enough && there >= 1
				there += map[string]int{"dup": 1, "drop": -1}[text]
			case "swap":
				enough = enough && there >= 2
			case "+", "-", "*", "<":
				enough = enough && there >= 2
				there--
			default:
				there++
			}
		}
		if enough {
			return needed, there
		}
	}
}

// drawnTyped returns a program that has an effect behind other words, together with them: of the parts that are drawn only those are kept behind which it still has one for which keep holds.
func drawnTyped(r *rand.Rand, before []int, tries int, keep func(e impl.Effect) bool) []int {
	p := []int{}
	for range tries {
		part := []int{impl.OpDup + r.Intn(impl.OpOpen-impl.OpDup)}
		if r.Intn(2) == 0 {
			part = drawnValue(r)
		}
		more := slices.Concat(before, p, part)
		if len(more) > impl.MaxWords {
			continue
		}
		if e, ok := modelEffect(more); ok && keep(e) {
			p = more[len(before):]
		}
	}
	return p
}

func anyEffect(impl.Effect) bool {
	return true
}

func needsNothing(e impl.Effect) bool {
	return e.In[0] == 3
}

// drawnCounted returns a program of numbers and of words that do no program.
func drawnCounted(r *rand.Rand, most int) []int {
	p := []int{}
	for range r.Intn(most + 1) {
		list := []string{"7", "0", "dup", "drop", "swap", "+", "-", "*", "<"}
		p = append(p, words(list[r.Intn(len(list))])...)
	}
	return p
}
