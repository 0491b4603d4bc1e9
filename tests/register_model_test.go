package tests

import (
	"crypto/sha256"
	"encoding/hex"
	"math/rand"
	"slices"
	"strconv"
	"strings"

	"loop.example/stackwords/impl"
)

// This is chapter 8 once more: what is reckoned is written out as a text, by which operations are known again, and stacks are rows of the names of registers, so that the tests have something to hold the program against.

// regsIn reads registers: how many are taken, the operations between commas, and what is left, with bars between these. i0 is RegIn, and o0 is RegOut.
func regsIn(text string) impl.Regs {
	parts := strings.Split(text, "|")
	takes, err := strconv.Atoi(strings.TrimSpace(parts[0]))
	if err != nil {
		panic(text)
	}
	r := impl.Regs{Takes: takes, List: []impl.Op{}, Outs: []int{}}
	for _, s := range strings.Split(parts[1], ",") {
		if f := strings.Fields(s); len(f) > 0 {
			r.List = append(r.List, impl.Op{Word: wordsByText[f[0]], A: registerIn(f[1]), B: registerIn(f[2])})
		}
	}
	for _, s := range strings.Fields(parts[2]) {
		r.Outs = append(r.Outs, registerIn(s))
	}
	return r
}

func registerIn(s string) int {
	first := 0
	switch s[0] {
	case 'i':
		first, s = 2000, s[1:]
	case 'o':
		first, s = 3000, s[1:]
	}
	n, err := strconv.Atoi(s)
	if err != nil {
		panic(s)
	}
	return first + n
}

func registerText(n int) string {
	switch n / 1000 {
	case 2:
		return "i" + strconv.Itoa(n-2000)
	case 3:
		return "o" + strconv.Itoa(n-3000)
	}
	return strconv.Itoa(n)
}

func regsText(r impl.Regs) string {
	var ops, outs []string
	for _, op := range r.List {
		ops = append(ops, written([]int{op.Word})+" "+registerText(op.A)+" "+registerText(op.B))
	}
	for _, out := range r.Outs {
		outs = append(outs, registerText(out))
	}
	return strconv.Itoa(r.Takes) + " | " + strings.Join(ops, ", ") + " | " + strings.Join(outs, " ")
}

func sameRegs(r, s impl.Regs) bool {
	return r.Takes == s.Takes && slices.Equal(r.List, s.List) && slices.Equal(r.Outs, s.Outs)
}

func isStraight(p []int) bool {
	for _, w := range p {
		switch text := wordTexts[w]; text {
		case "dup", "drop", "swap", "+", "-", "*", "<":
		case "":
			if w < 0 || w > 999 {
				return false
			}
		default:
			return false
		}
	}
	return len(p) <= 60
}

// shortened keeps a text from doubling with each operation: a long one is told by its sum.
func shortened(whole string) string {
	if len(whole) < 200 {
		return whole
	}
	sum := sha256.Sum256([]byte(whole))
	return "(" + hex.EncodeToString(sum[:])
}

// modelRegs writes out what each value is reckoned of: two operations are the same if this is.
func modelRegs(p []int) (impl.Regs, bool) {
	if !isStraight(p) {
		return impl.Regs{}, false
	}
	takes, _ := modelCount(p)
	var there []string
	for i := range takes {
		there = append(there, "i"+strconv.Itoa(i))
	}
	r := impl.Regs{Takes: takes}
	var reckoned []string
	register := func(value string) int {
		if value[0] == '(' {
			return 3000 + slices.Index(reckoned, value)
		}
		return registerIn(value)
	}
	for _, text := range strings.Fields(written(p)) {
		many := len(there)
		switch text {
		case "dup":
			there = append(there, there[many-1])
		case "drop":
			there = there[:many-1]
		case "swap":
			there = append(slices.Clone(there[:many-2]), there[many-1], there[many-2])
		case "+", "-", "*", "<":
			a, b := there[many-2], there[many-1]
			whole := shortened("(" + a + " " + text + " " + b + ")")
			if !slices.Contains(reckoned, whole) {
				reckoned = append(reckoned, whole)
				r.List = append(r.List, impl.Op{Word: wordsByText[text], A: register(a), B: register(b)})
			}
			there = append(slices.Clone(there[:many-2]), whole)
		default:
			there = append(there, text)
		}
	}
	for _, value := range there {
		r.Outs = append(r.Outs, register(value))
	}
	return r, true
}

func modelRegsValid(r impl.Regs) bool {
	known := map[int]bool{}
	isKnown := func(register int) bool { return known[register] || register >= 0 && register < 1000 }
	for i := 0; i < r.Takes && i < 21; i++ {
		known[2000+i] = true
	}
	ok := r.Takes >= 0 && r.Takes < 21 && len(r.List) < 61 && len(r.Outs) < 21
	for i, op := range r.List {
		ok = ok && strings.Contains(" + - * < ", " "+wordTexts[op.Word]+" ") && isKnown(op.A) && isKnown(op.B)
		known[3000+i] = true
	}
	for _, out := range r.Outs {
		ok = ok && isKnown(out)
	}
	return ok
}

// modelRegsRun goes back from what is left to what it is reckoned of.
func modelRegsRun(r impl.Regs, in []int) ([]int, bool) {
	if !modelRegsValid(r) || len(in) != r.Takes || slices.ContainsFunc(in, func(n int) bool { return n < 0 || n > 999 }) {
		return nil, false
	}
	known := map[int]string{}
	var value func(register int) string
	value = func(register int) string {
		text, ok := known[register]
		switch {
		case ok:
			return text
		case register < 1000:
			text = strconv.Itoa(register)
		case register < 3000:
			text = strconv.Itoa(in[register-2000])
		default:
			op := r.List[register-3000]
			put, _ := modelDo(wordTexts[op.Word], []string{value(op.A), value(op.B)})
			text = put[0]
		}
		known[register] = text
		return text
	}
	left := []int{}
	for _, out := range r.Outs {
		n, _ := strconv.Atoi(value(out))
		left = append(left, n)
	}
	return left, true
}

// modelMaker has the names of what is on the stack, and the texts of the words until there are too many. What is put there once more, and what is a number, has no name, so that every register is found where it was first.
type modelMaker struct {
	there []string
	texts []string
	many  int
}

func (m *modelMaker) under(values int, text string) {
	if m.many += 3*values + 1; m.many <= 60 {
		m.texts = append(m.texts, modelUnder(values, text))
	}
}

// put puts the name on the stack once more, and exchanges it with the one above as long as there is one.
func (m *modelMaker) put(name string) {
	at := slices.Index(m.there, name)
	if at < 0 {
		m.under(0, name)
		m.there = append(m.there, "")
		return
	}
	m.under(len(m.there)-1-at, "dup")
	m.there = slices.Insert(m.there, at+1, "")
	for at++; at < len(m.there)-1; at++ {
		m.under(len(m.there)-2-at, "swap")
		m.there[at], m.there[at+1] = m.there[at+1], m.there[at]
	}
}

func modelFrom(r impl.Regs) ([]int, bool) {
	if !modelRegsValid(r) {
		return nil, false
	}
	m := &modelMaker{}
	for i := range r.Takes {
		m.there = append(m.there, "i"+strconv.Itoa(i))
	}
	for i, op := range r.List {
		m.put(registerText(op.A))
		m.put(registerText(op.B))
		m.under(0, wordTexts[op.Word])
		m.there = append(m.there[:len(m.there)-2], "o"+strconv.Itoa(i))
	}
	before := len(m.there)
	for _, out := range r.Outs {
		m.put(registerText(out))
	}
	for range before {
		m.under(len(r.Outs), "drop")
	}
	return words(strings.Join(m.texts, " ")), m.many <= 60
}

// drawnStraight returns a program of words of which only a few are numbers, and these only a few, so that operations stand twice.
func drawnStraight(r *rand.Rand, most int) []int {
	p := []int{}
	for range r.Intn(most + 1) {
		list := []string{"1", "1", "2", "dup", "dup", "drop", "swap", "swap", "+", "-", "*", "<"}
		p = append(p, words(list[r.Intn(len(list))])...)
	}
	return p
}

// drawnRegs returns valid registers of at most so much of each kind.
func drawnRegs(r *rand.Rand, takes, ops, outs int) impl.Regs {
	regs := impl.Regs{Takes: r.Intn(takes + 1)}
	for range r.Intn(ops + 1) {
		regs.List = append(regs.List, impl.Op{Word: impl.OpAdd + r.Intn(4), A: drawnRegister(r, regs), B: drawnRegister(r, regs)})
	}
	for range r.Intn(outs + 1) {
		regs.Outs = append(regs.Outs, drawnRegister(r, regs))
	}
	return regs
}

func drawnRegister(r *rand.Rand, regs impl.Regs) int {
	if kind := r.Intn(3); kind == 1 && regs.Takes > 0 {
		return impl.RegIn + r.Intn(regs.Takes)
	} else if kind == 2 && len(regs.List) > 0 {
		return impl.RegOut + r.Intn(len(regs.List))
	}
	return []int{0, 1, 2, 3, 500, 998, 999, r.Intn(1000)}[r.Intn(8)]
}

// drawnNums returns exactly so many numbers, often small or great ones.
func drawnNums(r *rand.Rand, many int) []int {
	in := []int{}
	for range many {
		in = append(in, []int{0, 1, 2, 3, 31, 32, 500, 998, 999, r.Intn(1000)}[r.Intn(10)])
	}
	return in
}
