package impl

import (
	"slices"
	"strconv"
	"strings"
)

// MaxWords is the maximum number of words of a program, and MaxNum the greatest number.
const (
	MaxWords = 60
	MaxNum   = 999
)

// A word in 0..MaxNum puts this number on the stack. OpDup, OpDrop and OpSwap change the upper values of the stack; OpDip, OpCall, OpIf and OpTimes do programs that are values; OpAdd, OpSub, OpMul and OpLess reckon; OpOpen begins a program that is a value, and OpEnd ends it.
const (
	OpDup   = 1001
	OpDrop  = 1002
	OpSwap  = 1003
	OpDip   = 1004
	OpCall  = 1005
	OpAdd   = 1006
	OpSub   = 1007
	OpMul   = 1008
	OpLess  = 1009
	OpIf    = 1010
	OpTimes = 1011
	OpOpen  = 1012
	OpEnd   = 1013
)

// noWords is the text of the program without words: "" is kept for what is no program.
const noWords = "--"

// opTexts are the texts of OpDup..OpEnd, in the order of their numbers.
var opTexts = [...]string{"dup", "drop", "swap", "dip", "call", "+", "-", "*", "<", "if", "times", "[", "]"}

// ProgValid reports whether a program has at most MaxWords words, each a number in 0..MaxNum or in OpDup..OpEnd, and each OpOpen has its OpEnd, as brackets have.
func ProgValid(p []int) bool {
	return len(p) <= MaxWords && allWords(p) && bracketsFit(p)
}

func isNum(w int) bool {
	return 0 <= w && w <= MaxNum
}

func isWord(w int) bool {
	return isNum(w) || OpDup <= w && w <= OpEnd
}

func allWords(p []int) bool {
	for _, w := range p {
		if !isWord(w) {
			return false
		}
	}
	return true
}

// bracketChange returns by how many a word changes the number of brackets that are open.
func bracketChange(w int) int {
	switch w {
	case OpOpen:
		return 1
	case OpEnd:
		return -1
	}
	return 0
}

// bracketsFit looks at nothing but the brackets, so that it holds for rows of any length and of other words, too.
func bracketsFit(p []int) bool {
	open := 0
	for _, w := range p {
		open += bracketChange(w)
		if open < 0 {
			return false
		}
	}
	return open == 0
}

// ProgThen returns the first one of two valid programs (ProgValid) and then the second one, and true; nil and false if it has more than MaxWords words, and for others.
func ProgThen(p []int, q []int) ([]int, bool) {
	if !ProgValid(p) || !ProgValid(q) || len(p)+len(q) > MaxWords {
		return nil, false
	}
	return slices.Concat(p, q), true
}

// ProgQuote returns the program that puts a valid program on the stack, and true: OpOpen, the program, and OpEnd; nil and false if it has more than MaxWords words, and for others.
func ProgQuote(p []int) ([]int, bool) {
	if !ProgValid(p) || len(p)+2 > MaxWords {
		return nil, false
	}
	return slices.Concat([]int{OpOpen}, p, []int{OpEnd}), true
}

// ProgParts returns the parts of a valid program, one after the other: each word that is in no bracket alone, and each OpOpen that is in no bracket with all words up to its OpEnd; nil for others.
func ProgParts(p []int) [][]int {
	if !ProgValid(p) {
		return nil
	}
	var parts [][]int
	open, begin := 0, 0
	for i, w := range p {
		open += bracketChange(w)
		if open == 0 {
			parts = append(parts, slices.Clone(p[begin:i+1]))
			begin = i + 1
		}
	}
	return parts
}

// ProgDepth returns the greatest number of brackets of a valid program in each other, 0 if there are none; -1 for others.
func ProgDepth(p []int) int {
	if !ProgValid(p) {
		return -1
	}
	open, depth := 0, 0
	for _, w := range p {
		open += bracketChange(w)
		depth = max(depth, open)
	}
	return depth
}

// WordText returns the text of a word: a number in decimal; dup, drop, swap, dip, call, +, -, *, <, if and times for OpDup to OpTimes, and square brackets for OpOpen and OpEnd; "" for other numbers.
func WordText(w int) string {
	if !isWord(w) {
		return ""
	}
	if isNum(w) {
		return strconv.Itoa(w)
	}
	return opTexts[w-OpDup]
}

// ReadWord returns the word whose WordText a text is, and true; -1 and false if there is none.
func ReadWord(s string) (int, bool) {
	if n, ok := readNum(s); ok {
		return n, true
	}
	for i, text := range opTexts {
		if s == text {
			return OpDup + i, true
		}
	}
	return -1, false
}

// readNum goes digit by digit, as strconv.Atoi would take signs and leading zeros, too.
func readNum(s string) (int, bool) {
	if s == "" || len(s) > 1 && s[0] == '0' {
		return -1, false
	}
	n := 0
	for _, r := range s {
		if r < '0' || r > '9' {
			return -1, false
		}
		n = 10*n + int(r-'0')
		if !isNum(n) {
			return -1, false
		}
	}
	return n, true
}

// ProgText returns the text of a valid program: WordText of its words with a space between them, and a hyphen and a hyphen, side by side, for the program without words; "" for others.
func ProgText(p []int) string {
	if !ProgValid(p) {
		return ""
	}
	if len(p) == 0 {
		return noWords
	}
	texts := make([]string, len(p))
	for i, w := range p {
		texts[i] = WordText(w)
	}
	return strings.Join(texts, " ")
}

// ReadProg returns the valid program whose ProgText a text is, and true; nil and false if there is none.
func ReadProg(s string) ([]int, bool) {
	if s == noWords {
		return nil, true
	}
	var p []int
	begin := 0
	for i, r := range s + " " { // with a space behind the last word, too, every word ends at one
		if r != ' ' {
			continue
		}
		w, ok := ReadWord(s[begin:i])
		if !ok || len(p) == MaxWords {
			return nil, false
		}
		p = append(p, w)
		begin = i + 1
	}
	if !bracketsFit(p) {
		return nil, false
	}
	return p, true
}
