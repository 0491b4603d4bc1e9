package tests

import (
	"math/rand"
	"slices"
	"strconv"
	"strings"

	"loop.example/stackwords/impl"
)

// This is chapter 10 once more: a bench is a row of lines, one for each stack of before, and the last one for the stack itself, and deeds are lines as well, so that the tests have something to hold the program against.

// lineOf writes a program as a line.
func lineOf(p []int) string {
	if len(p) == 0 {
		return "--"
	}
	return written(p)
}

// bench reads the lines of a bench between bars; they need not be those of a valid one.
func bench(text string) impl.Bench {
	return benchOf(strings.Split(text, " | "))
}

func benchOf(lines []string) impl.Bench {
	last := len(lines) - 1
	return impl.Bench{Now: words(strings.ReplaceAll(lines[last], "--", "")), Past: lines[:last]}
}

func linesOf(b impl.Bench) []string {
	return append(slices.Clone(b.Past), lineOf(b.Now))
}

func benchText(b impl.Bench) string {
	return strings.Join(linesOf(b), " | ")
}

func sameBench(b, c impl.Bench) bool {
	return same(b.Now, c.Now) && slices.Equal(b.Past, c.Past)
}

func noBench(b impl.Bench) bool {
	return len(b.Now) == 0 && len(b.Past) == 0
}

// isStackLine reports whether each part of a line is a value.
func isStackLine(line string) bool {
	p, ok := progOf(wordsByText, line)
	parts := partTexts(p)
	for _, part := range parts {
		_, isOp := takes[part]
		ok = ok && !isOp
	}
	return ok && len(parts) <= 20
}

func modelBenchValid(b impl.Bench) bool {
	for _, w := range b.Now {
		if _, ok := wordTexts[w]; !ok && (w < 0 || w > 999) {
			return false
		}
	}
	if !fits(b.Now) || len(b.Past) > 20 {
		return false
	}
	for _, line := range linesOf(b) {
		if !isStackLine(line) {
			return false
		}
	}
	return true
}

// lineOfDeed returns "" for a deed that has no text.
func lineOfDeed(d impl.Deed) string {
	line := map[int]string{0: "do " + d.Text, 1: "clear" + d.Text, 2: "back" + d.Text}[d.Kind]
	if !isDeedLine(line) {
		return ""
	}
	return line
}

func isDeedLine(line string) bool {
	if line == "clear" || line == "back" {
		return true
	}
	_, ok := progOf(wordsByText, strings.TrimPrefix(line, "do "))
	return ok && strings.HasPrefix(line, "do ")
}

// valuesIn reads the stack of a line.
func valuesIn(line string) [][]int {
	return stackOf(partTexts(words(strings.ReplaceAll(line, "--", ""))))
}

// modelDeed does the line of a deed to the lines of a bench.
func modelDeed(lines []string, deed string) ([]string, bool) {
	last := len(lines) - 1
	if deed == "" || deed == "back" && last == 0 {
		return lines, false
	}
	if deed == "back" {
		return lines[:last], true
	}
	next := "--"
	if deed != "clear" {
		p, _ := progOf(wordsByText, deed[3:])
		left, _, ok := modelRun(p, valuesIn(lines[last]))
		next = lineOf(slices.Concat(left...))
		if !ok || len(strings.Fields(next)) > 60 {
			return lines, false
		}
	}
	if next == lines[last] {
		return lines, false
	}
	lines = append(slices.Clone(lines), next)
	return lines[max(0, len(lines)-21):], true
}

func modelDeeds(b impl.Bench, list []impl.Deed) (impl.Bench, int) {
	lines, many := linesOf(b), 0
	for _, d := range list {
		var ok bool
		if lines, ok = modelDeed(lines, lineOfDeed(d)); ok {
			many++
		}
	}
	return benchOf(lines), many
}

// modelJournal returns the lines of the deeds that are read.
func modelJournal(text string) []string {
	lines := strings.Split(text, "\n")
	lines = lines[:len(lines)-1]
	for i, line := range lines {
		if !isDeedLine(line) {
			return lines[:i]
		}
	}
	return lines
}

// modelSay returns the lines of a bench after a line that is said, and the answer.
func modelSay(lines []string, said string) ([]string, string) {
	if isDeedLine(said) {
		next, ok := modelDeed(lines, said)
		return next, map[bool]string{true: "ok", false: "no"}[ok]
	}
	now := lines[len(lines)-1]
	for question, answer := range map[string]string{"now": now, "values": strconv.Itoa(len(valuesIn(now))), "past": strconv.Itoa(len(lines) - 1)} {
		if said == question {
			return lines, answer
		}
	}
	for question, answer := range map[string]func(now string, p []int) string{"effect ": answerEffect, "simple ": answerSimple, "steps ": answerSteps, "regs ": answerRegs, "safe ": answerSafe} {
		p, ok := progOf(wordsByText, strings.TrimPrefix(said, question))
		if ok && strings.HasPrefix(said, question) {
			return lines, answer(now, p)
		}
	}
	return lines, "what"
}

func answerEffect(_ string, p []int) string {
	if e, ok := modelEffect(p); ok {
		return modelText(e)
	}
	return "none"
}

func answerSimple(_ string, p []int) string {
	last, _ := modelSimple(p)
	return lineOf(last)
}

func answerSteps(now string, p []int) string {
	if _, steps, ok := modelRun(p, valuesIn(now)); ok {
		return strconv.Itoa(steps)
	}
	return "none"
}

func answerRegs(_ string, p []int) string {
	if regs, ok := modelRegs(p); ok {
		return strconv.Itoa(len(regs.List))
	}
	return "none"
}

func answerSafe(now string, p []int) string {
	whole := slices.Concat(slices.Concat(valuesIn(now)...), p)
	e, ok := modelEffect(whole)
	if ok && len(whole) <= 60 && needsNothing(e) {
		return "yes"
	}
	return "no"
}

// drawnStackLine returns the line of a stack.
func drawnStackLine(r *rand.Rand) string {
	s := drawnStack(r, []int{0, 2, 4, 20}[r.Intn(4)])
	for len(slices.Concat(s...)) > 60 {
		s = s[1:]
	}
	return lineOf(slices.Concat(s...))
}

// drawnBench returns a valid bench, with no stack of before, with as many as there may be, and with other numbers of them.
func drawnBench(r *rand.Rand) impl.Bench {
	lines := []string{drawnStackLine(r)}
	for range []int{0, 1, 18, 19, 20, r.Intn(21)}[r.Intn(6)] {
		lines = append(lines, drawnStackLine(r))
	}
	return benchOf(lines)
}

// drawnDeedLine returns the line of a deed, most often of one that can be done.
func drawnDeedLine(r *rand.Rand, now string) string {
	switch r.Intn(8) {
	case 0:
		return "clear"
	case 1, 2:
		return "back"
	case 3:
		return "do " + lineOf(drawn(r, 6))
	}
	return "do " + lineOf(drawnRun(r, valuesIn(now), 1+r.Intn(4)))
}

// deedIn reads the line of a deed.
func deedIn(line string) impl.Deed {
	if text, ok := strings.CutPrefix(line, "do "); ok {
		return impl.Deed{Text: text}
	}
	return impl.Deed{Kind: map[string]int{"clear": 1, "back": 2}[line]}
}

func deedsIn(lines []string) []impl.Deed {
	var list []impl.Deed
	for _, line := range lines {
		list = append(list, deedIn(line))
	}
	return list
}

// otherDeed returns a deed that has no text.
func otherDeed(r *rand.Rand) impl.Deed {
	list := []impl.Deed{
		{Kind: 3}, {Kind: -1}, {Kind: 3, Text: "1"}, {Kind: -1, Text: "1"}, {Kind: maxInt}, {Kind: -maxInt - 1, Text: "drop"}, {Kind: 1, Text: "1"}, {Kind: 2, Text: "1"}, {Kind: 1, Text: "--"}, {Kind: 2, Text: " "},
		{}, {Text: " "}, {Text: "1 "}, {Text: " 1"}, {Text: "1  2"}, {Text: "["}, {Text: "]"}, {Text: "01"}, {Text: "1000"}, {Text: "do 1"}, {Text: "1\n"}, {Text: repeated(60, "1") + "1"}, {Text: "1 --"},
	}
	return list[r.Intn(len(list))]
}

// drawnDeeds returns so many deeds, of which most can be done one after the other.
func drawnDeeds(r *rand.Rand, b impl.Bench, many int) []impl.Deed {
	var list []impl.Deed
	lines := linesOf(b)
	for range many {
		d := deedIn(drawnDeedLine(r, lines[len(lines)-1]))
		if r.Intn(8) == 0 {
			d = otherDeed(r)
		}
		list = append(list, d)
		lines, _ = modelDeed(lines, lineOfDeed(d))
	}
	return list
}

// drawnSaid returns a line: a deed, a question, or something else.
func drawnSaid(r *rand.Rand, now string) string {
	switch r.Intn(8) {
	case 0, 1, 2:
		return drawnDeedLine(r, now)
	case 3:
		return []string{"now", "values", "past"}[r.Intn(3)]
	case 4:
		list := []string{"", " ", "do", "do ", "clear ", "back ", " back", "now ", "values 1", "past\n", "effect", "effect ", "simple", "steps --  ", "regs [", "safe 1 ", "safe", "SAFE 1", "what", "ok", "do  1", "effect\t1", "do 1\n", "--", "1", "steps 1000", "undo 1"}
		return list[r.Intn(len(list))]
	}
	question := []string{"effect", "simple", "steps", "regs", "safe"}[r.Intn(5)]
	s := valuesIn(now)
	list := [][]int{drawnRun(r, s, 4), drawn(r, 6), drawnCounted(r, 8), drawnTyped(r, nil, 4, anyEffect), drawnRuled(r, 20)}
	return question + " " + lineOf(list[r.Intn(len(list))])
}

// drawnLines returns so many lines that are said one after the other.
func drawnLines(r *rand.Rand, b impl.Bench, many int) []string {
	var said []string
	lines := linesOf(b)
	for range many {
		line := drawnSaid(r, lines[len(lines)-1])
		said = append(said, line)
		lines, _ = modelSay(lines, line)
	}
	return said
}
