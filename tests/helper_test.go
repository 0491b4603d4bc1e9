package tests

import (
	"math/rand"
	"slices"
	"strings"
	"testing"

	"loop.example/stackwords/impl"
)

// wordTexts is the document's list of operations, written out again so that the tests do not rely on WordText.
var wordTexts = map[int]string{
	1001: "dup", 1002: "drop", 1003: "swap", 1004: "dip", 1005: "call",
	1006: "+", 1007: "-", 1008: "*", 1009: "<", 1010: "if", 1011: "times",
	1012: "[", 1013: "]",
}

const maxInt = int(^uint(0) >> 1)

// fits tells by taking away pairs of brackets side by side whether all brackets of a row fit.
func fits(p []int) bool {
	var b strings.Builder
	for _, w := range p {
		switch w {
		case impl.OpOpen:
			b.WriteByte('[')
		case impl.OpEnd:
			b.WriteByte(']')
		}
	}
	s := b.String()
	for strings.Contains(s, "[]") {
		s = strings.ReplaceAll(s, "[]", "")
	}
	return s == ""
}

// rowsOf returns all rows of at most so many of the given words.
func rowsOf(words []int, most int) [][]int {
	rows := [][]int{{}}
	for from, n := 0, 0; n < most; n++ {
		to := len(rows)
		for _, r := range rows[from:to] {
			for _, w := range words {
				rows = append(rows, append(slices.Clone(r), w))
			}
		}
		from = to
	}
	return rows
}

// textsOf returns all texts of at most so many of the given pieces.
func textsOf(pieces []string, most int) []string {
	var texts []string
	places := make([]int, len(pieces))
	for i := range places {
		places[i] = i
	}
	for _, r := range rowsOf(places, most) {
		s := ""
		for _, i := range r {
			s += pieces[i]
		}
		texts = append(texts, s)
	}
	return texts
}

// row returns a row of so many times the same word.
func row(w int, many int) []int {
	return slices.Repeat([]int{w}, many)
}

// nest returns so many brackets in each other.
func nest(depth int) []int {
	return slices.Concat(row(impl.OpOpen, depth), row(impl.OpEnd, depth))
}

// drawn returns a program of at most so many words, drawn from a source with a fixed seed.
func drawn(r *rand.Rand, most int) []int {
	p := []int{}
	for len(p) < most && r.Intn(12) > 0 {
		switch r.Intn(4) {
		case 0:
			p = append(p, r.Intn(impl.MaxNum+1))
		case 1, 2:
			p = append(p, impl.OpDup+r.Intn(impl.OpOpen-impl.OpDup))
		default:
			if most-len(p) >= 2 {
				in := drawn(r, most-len(p)-2)
				p = slices.Concat(p, []int{impl.OpOpen}, in, []int{impl.OpEnd})
			}
		}
	}
	return p
}

// programs returns valid programs: all small ones of a few words, those at the bounds, and drawn ones.
func programs() [][]int {
	var list [][]int
	for _, p := range rowsOf([]int{7, impl.OpDup, impl.OpOpen, impl.OpEnd}, 4) {
		if fits(p) {
			list = append(list, p)
		}
	}
	list = append(list,
		row(0, impl.MaxWords), row(impl.OpEnd-2, impl.MaxWords), row(999, impl.MaxWords-1), row(1, impl.MaxWords-2),
		nest(impl.MaxWords/2), nest(impl.MaxWords/2-1), slices.Concat(nest(2), nest(3), nest(1)),
		slices.Repeat([]int{impl.OpOpen, impl.OpEnd}, impl.MaxWords/2),
		slices.Concat([]int{impl.OpOpen}, row(5, impl.MaxWords-2), []int{impl.OpEnd}))
	r := rand.New(rand.NewSource(1))
	for range 150 {
		list = append(list, drawn(r, impl.MaxWords))
	}
	return list
}

// badPrograms returns rows that are no valid programs.
func badPrograms() [][]int {
	list := [][]int{
		{-1}, {1000}, {1014}, {1101}, {2000}, {3000}, {maxInt}, {-maxInt - 1}, {1, 2, 1000}, {-1, 2},
		{impl.OpOpen}, {impl.OpEnd}, {impl.OpEnd, impl.OpOpen}, {impl.OpOpen, impl.OpOpen, impl.OpEnd},
		{impl.OpOpen, impl.OpEnd, impl.OpEnd}, {impl.OpOpen, impl.OpEnd, impl.OpEnd, impl.OpOpen}, {impl.OpOpen, 1000, impl.OpEnd},
		row(0, impl.MaxWords+1), row(impl.OpDup, 3*impl.MaxWords), nest(impl.MaxWords/2 + 1), row(impl.OpOpen, impl.MaxWords), row(impl.OpEnd, impl.MaxWords),
		slices.Concat(nest(impl.MaxWords/2), []int{1}),
	}
	return list
}

// same counts a nil slice and an empty one as the same value.
func same(p, q []int) bool {
	return slices.Equal(p, q)
}

// spoil writes over all of a row, its spare capacity as well.
func spoil(p []int) {
	p = p[:cap(p)]
	for i := range p {
		p[i] = -77
	}
}

// kept checks that a call wrote to nothing of the row that it was given, nor to the capacity behind it.
func kept(t *testing.T, p []int, call func(p []int)) {
	t.Helper()
	given := append(slices.Clone(p), -5, -5, -5)
	was := slices.Clone(given)
	call(given[:len(p)])
	if !slices.Equal(given, was) {
		t.Fatalf("%v was written to: %v", was, given)
	}
}
