package tests

import (
	"math/rand"
	"slices"
	"strconv"
	"strings"

	"loop.example/stackwords/impl"
)

// This is chapter 6 once more, done on the list of instructions with notes that are texts, so that the tests have something to hold the program against.

// codeIn reads a code whose blocks end with semicolons, but for the last one; # and a number is a block.
func codeIn(text string) impl.Code {
	c := impl.Code{}
	for _, block := range strings.Split(text, ";") {
		c.From = append(c.From, len(c.List))
		for _, s := range strings.Fields(block) {
			c.List = append(c.List, insIn(s))
		}
		c.List = append(c.List, impl.Ins{Kind: 3})
	}
	return c
}

func insIn(s string) impl.Ins {
	if number, ok := strings.CutPrefix(s, "#"); ok {
		n, err := strconv.Atoi(number)
		if err != nil {
			panic(s)
		}
		return impl.Ins{Kind: 1, Arg: n}
	}
	w := words(s)[0]
	if w >= 1001 {
		return impl.Ins{Kind: 2, Arg: w}
	}
	return impl.Ins{Kind: 0, Arg: w}
}

// insText is the text of an instruction but InBack.
func insText(ins impl.Ins) string {
	if ins.Kind == 1 {
		return "#" + strconv.Itoa(ins.Arg)
	}
	return written([]int{ins.Arg})
}

// codeTexts returns the instructions of each block of a valid code, without InBack.
func codeTexts(c impl.Code) [][]string {
	blocks := [][]string{nil}
	for _, ins := range c.List[:len(c.List)-1] {
		last := len(blocks) - 1
		if ins.Kind == 3 {
			blocks = append(blocks, nil)
		} else {
			blocks[last] = append(blocks[last], insText(ins))
		}
	}
	return blocks
}

// codeText is for valid codes.
func codeText(c impl.Code) string {
	var blocks []string
	for _, block := range codeTexts(c) {
		blocks = append(blocks, strings.Join(block, " "))
	}
	return strings.Join(blocks, "; ")
}

func sameCode(c, d impl.Code) bool {
	return slices.Equal(c.List, d.List) && slices.Equal(c.From, d.From)
}

func modelCode(p []int) impl.Code {
	return codeIn(strings.Join(modelBlocks(partTexts(p), 0), ";"))
}

// modelBlocks returns the block of parts, whose number is given, and then those within.
func modelBlocks(parts []string, number int) []string {
	own, within := "", []string{}
	for _, part := range parts {
		if isProg(part) {
			next := number + 1 + len(within)
			within = append(within, modelBlocks(partTexts(words(strings.Join(inside(part), " "))), next)...)
			part = "#" + strconv.Itoa(next)
		}
		own += " " + part
	}
	return append([]string{own}, within...)
}

func modelCodeValid(c impl.Code) bool {
	var from []int
	begins, ok := true, true
	for i, ins := range c.List {
		if begins {
			from = append(from, i)
		}
		begins = ins.Kind == 3
		least := map[int]int{0: 0, 1: 1, 2: 1001, 3: 0}
		most := map[int]int{0: 999, 1: len(c.From) - 1, 2: 1011, 3: 0}
		low, known := least[ins.Kind]
		ok = ok && known && low <= ins.Arg && ins.Arg <= most[ins.Kind]
	}
	return ok && begins && len(c.List) > 0 && len(c.List) <= 120 && len(from) <= 60 && slices.Equal(from, c.From)
}

// blocksIn returns for each block of a valid code those that are in it, or in one of these, and so on.
func blocksIn(c impl.Code) []map[int]bool {
	sets := []map[int]bool{}
	for _, block := range codeTexts(c) {
		set := map[int]bool{}
		for _, s := range block {
			if strings.HasPrefix(s, "#") {
				set[insIn(s).Arg] = true
			}
		}
		sets = append(sets, set)
	}
	for by := range sets {
		for _, set := range sets {
			if set[by] {
				for in := range sets {
					if sets[by][in] {
						set[in] = true
					}
				}
			}
		}
	}
	return sets
}

func modelProg(c impl.Code, block int) ([]int, bool) {
	sets := blocksIn(c)
	if block < 0 || block >= len(sets) || sets[block][block] {
		return nil, false
	}
	for in := range sets[block] {
		if sets[in][in] {
			return nil, false
		}
	}
	texts, known := codeTexts(c), map[int]int{}
	if wordsIn(texts, block, known) > 60 {
		return nil, false
	}
	return words(blockText(texts, block)), true
}

// wordsIn counts without writing, as a text may be far too long to be written; what is longer than 1000 words counts as that.
func wordsIn(texts [][]string, block int, known map[int]int) int {
	if many, ok := known[block]; ok {
		return many
	}
	many := 0
	for _, s := range texts[block] {
		if strings.HasPrefix(s, "#") {
			many += 2 + wordsIn(texts, insIn(s).Arg, known)
		} else {
			many++
		}
	}
	known[block] = min(many, 1000)
	return known[block]
}

func blockText(texts [][]string, block int) string {
	text := ""
	for _, s := range texts[block] {
		if strings.HasPrefix(s, "#") {
			s = "[ " + blockText(texts, insIn(s).Arg) + " ]"
		}
		text += s + " "
	}
	return text
}

// modelMachine has the values as texts, # and a number for a block, and the notes "at" a place, "put" a value, and "more" times of a block.
type modelMachine struct {
	code          impl.Code
	values, notes []string
}

func (m *modelMachine) at(block string) {
	m.notes = append(m.notes, "at "+strconv.Itoa(m.code.From[insIn(block).Arg]))
}

func (m *modelMachine) do(op string) bool {
	kinds := takes[op]
	below := len(m.values) - len(kinds)
	if below < 0 {
		return false
	}
	in := slices.Clone(m.values[below:])
	m.values = m.values[:below]
	for i, kind := range kinds {
		if kind != 'a' && strings.HasPrefix(in[i], "#") != (kind == 'p') {
			return false
		}
	}
	switch op {
	case "dip":
		m.notes = append(m.notes, "put "+in[0])
		m.at(in[1])
	case "call":
		m.at(in[0])
	case "if":
		m.at(map[bool]string{true: in[2], false: in[1]}[in[0] == "0"])
	case "times":
		if n, _ := strconv.Atoi(in[0]); n > 0 {
			if n > 1 {
				m.notes = append(m.notes, "more "+in[1]+" "+strconv.Itoa(n-1))
			}
			m.at(in[1])
		}
	default:
		put, _ := modelDo(op, in)
		m.values = append(m.values, put...)
	}
	return true
}

func (m *modelMachine) tick() bool {
	last := len(m.notes) - 1
	note := strings.Fields(m.notes[last])
	m.notes = m.notes[:last]
	switch note[0] {
	case "put":
		m.values = append(m.values, note[1])
	case "more":
		if n, _ := strconv.Atoi(note[2]); n > 1 {
			m.notes = append(m.notes, "more "+note[1]+" "+strconv.Itoa(n-1))
		}
		m.at(note[1])
	case "at":
		place, _ := strconv.Atoi(note[1])
		ins := m.code.List[place]
		if ins.Kind == 3 {
			return true
		}
		m.notes = append(m.notes, "at "+strconv.Itoa(place+1))
		if ins.Kind == 2 {
			return m.do(insText(ins)) && len(m.values) <= 20
		}
		m.values = append(m.values, insText(ins))
	}
	return len(m.values) <= 20
}

// modelTicks is for valid codes.
func modelTicks(c impl.Code) ([]int, int, bool) {
	m := &modelMachine{code: c, notes: []string{"at 0"}}
	ticks := 0
	for len(m.notes) > 0 {
		if ticks == 6000 || !m.tick() {
			return nil, 0, false
		}
		ticks++
	}
	left := []int{}
	for _, v := range m.values {
		n := insIn(v).Arg
		if strings.HasPrefix(v, "#") {
			n = -n - 1
		}
		left = append(left, n)
	}
	return left, ticks, true
}

func modelValues(c impl.Code, values []int) ([][]int, bool) {
	s := [][]int{}
	for _, v := range values {
		text := strconv.Itoa(v)
		if v < 0 {
			p, ok := modelProg(c, -(v + 1))
			if !ok || len(p) > 58 {
				return nil, false
			}
			text = "[ " + written(p) + " ]"
		} else if v > 999 {
			return nil, false
		}
		s = append(s, words(text))
	}
	return s, len(s) <= 20
}

// drawnCode returns a valid code of any blocks, which may have themselves.
func drawnCode(r *rand.Rand) impl.Code {
	many := 1 + r.Intn(6)
	if r.Intn(10) == 0 {
		many = 1 + r.Intn(60)
	}
	room := 120 - many
	var blocks []string
	for range many {
		block := ""
		for room > 0 && r.Intn(4) > 0 {
			block += " " + drawnIns(r, many)
			room--
		}
		blocks = append(blocks, block)
	}
	return codeIn(strings.Join(blocks, ";"))
}

func drawnIns(r *rand.Rand, blocks int) string {
	switch r.Intn(3) {
	case 0:
		return strconv.Itoa(r.Intn(4))
	case 1:
		if blocks > 1 {
			return "#" + strconv.Itoa(1+r.Intn(blocks-1))
		}
	}
	return wordTexts[1001+r.Intn(11)]
}

// drawnTold returns a code that the machine does to its end: of the instructions that are drawn for the block 0 only those are kept behind which it still does.
func drawnTold(r *rand.Rand, tries int) impl.Code {
	within := []string{"", "1", "dup", "drop", "swap", "+", "1 +", "dup *", "3 <", "#1", "#2", "#1 #2", "swap dip", "#1 dip", "#2 call", "dup call", "#1 call", "drop 2", "#2 #1 if", "2 #1 times", "times"}
	many := 2 + r.Intn(4)
	rest := ""
	for range many - 1 {
		block := within[r.Intn(len(within))]
		if many == 2 && strings.Contains(block, "#2") {
			block = ""
		}
		rest += "; " + block
	}
	text := ""
	for range tries {
		more := text + " " + drawnIns(r, many)
		if _, ticks, ok := modelTicks(codeIn(more + rest)); ok && ticks < 200 {
			text = more
		}
	}
	return codeIn(text + rest)
}
