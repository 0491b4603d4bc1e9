package tests

import (
	"math/rand"
	"slices"
	"strconv"
	"strings"
	"testing"

	"loop.example/stackwords/impl"
)

func TestValidWords(t *testing.T) {
	for w := -20; w < 4000; w++ {
		want := 0 <= w && w <= 999 || 1001 <= w && w <= 1011
		if got := impl.ProgValid([]int{w}); got != want {
			t.Fatalf("ProgValid of %d: %v", w, got)
		}
		want = want || w == impl.OpOpen || w == impl.OpEnd
		if got := impl.WordText(w) != ""; got != want {
			t.Fatalf("WordText of %d: %q", w, impl.WordText(w))
		}
	}
}

func TestValidBrackets(t *testing.T) {
	for _, p := range rowsOf([]int{3, impl.OpTimes, impl.OpOpen, impl.OpEnd}, 7) {
		if impl.ProgValid(p) != fits(p) {
			t.Fatalf("ProgValid of %v: %v", p, impl.ProgValid(p))
		}
	}
}

func TestValidBounds(t *testing.T) {
	if !impl.ProgValid(nil) || !impl.ProgValid([]int{}) {
		t.Fatal("the program without words")
	}
	for _, p := range programs() {
		if !impl.ProgValid(p) {
			t.Fatalf("%v is valid", p)
		}
	}
	for _, p := range badPrograms() {
		if impl.ProgValid(p) {
			t.Fatalf("%v is not valid", p)
		}
	}
}

// Promise 31.
func TestQuotedProgramsAreValid(t *testing.T) {
	for _, p := range programs() {
		q, ok := impl.ProgQuote(p)
		if ok != (len(p)+2 <= impl.MaxWords) || !ok && q != nil {
			t.Fatalf("ProgQuote of %d words: %v, %v", len(p), q, ok)
		}
		if impl.ProgValid(append(slices.Clone(p), impl.OpEnd)) {
			t.Fatalf("%v with a closing bracket more", p)
		}
		if !ok {
			continue
		}
		want := slices.Concat([]int{1012}, p, []int{1013})
		if !same(q, want) || !impl.ProgValid(q) || impl.ProgValid(append(slices.Clone(q), impl.OpEnd)) {
			t.Fatalf("ProgQuote of %v: %v", p, q)
		}
	}
}

func TestQuoteBounds(t *testing.T) {
	if q, ok := impl.ProgQuote(nil); !ok || !same(q, []int{1012, 1013}) {
		t.Fatal(q, ok)
	}
	if q, ok := impl.ProgQuote(row(4, 58)); !ok || len(q) != 60 || !impl.ProgValid(q) {
		t.Fatal(q, ok)
	}
	if q, ok := impl.ProgQuote(row(4, 59)); ok || q != nil {
		t.Fatal(q, ok)
	}
	for _, p := range badPrograms() {
		if q, ok := impl.ProgQuote(p); ok || q != nil {
			t.Fatalf("ProgQuote of %v: %v, %v", p, q, ok)
		}
	}
}

// then follows two programs, of which either may not be told.
func then(p []int, pOk bool, q []int, qOk bool) ([]int, bool) {
	if !pOk || !qOk {
		return nil, false
	}
	return impl.ProgThen(p, q)
}

// Promise 32.
func TestThenHasNoBrackets(t *testing.T) {
	list := programs()
	r := rand.New(rand.NewSource(2))
	for range 30000 {
		p, q, s := list[r.Intn(len(list))], list[r.Intn(len(list))], list[r.Intn(len(list))]
		pq, pqOk := impl.ProgThen(p, q)
		qs, qsOk := impl.ProgThen(q, s)
		left, leftOk := then(pq, pqOk, s, true)
		right, rightOk := then(p, true, qs, qsOk)
		want := slices.Concat(p, q, s)
		if leftOk != (len(want) <= impl.MaxWords) || rightOk != leftOk {
			t.Fatalf("%v, %v, %v: %v, %v", p, q, s, leftOk, rightOk)
		}
		if leftOk && (!same(left, want) || !same(right, want) || !impl.ProgValid(left)) {
			t.Fatalf("%v, %v, %v: %v, %v", p, q, s, left, right)
		}
	}
	for _, p := range list {
		behind, ok := impl.ProgThen(p, nil)
		ahead, also := impl.ProgThen([]int{}, p)
		if !ok || !also || !same(behind, p) || !same(ahead, p) {
			t.Fatalf("%v and no words: %v, %v", p, behind, ahead)
		}
	}
}

func TestThenBounds(t *testing.T) {
	if q, ok := impl.ProgThen(row(1, 30), row(2, 30)); !ok || !same(q, append(row(1, 30), row(2, 30)...)) {
		t.Fatal(q, ok)
	}
	if q, ok := impl.ProgThen(row(1, 30), row(2, 31)); ok || q != nil {
		t.Fatal(q, ok)
	}
	for _, bad := range append(badPrograms(), []int{impl.OpOpen, 1}) {
		for _, p := range [][]int{nil, {1}, {impl.OpEnd}, {impl.OpOpen}, bad} {
			if q, ok := impl.ProgThen(bad, p); ok || q != nil {
				t.Fatalf("%v, %v: %v", bad, p, q)
			}
			if q, ok := impl.ProgThen(p, bad); ok || q != nil {
				t.Fatalf("%v, %v: %v", p, bad, q)
			}
		}
	}
}

// Promise 33.
func TestValuesAreOnePart(t *testing.T) {
	for _, p := range programs() {
		q, ok := impl.ProgQuote(p)
		if !ok {
			continue
		}
		parts := impl.ProgParts(q)
		if len(parts) != 1 || !same(parts[0], q) {
			t.Fatalf("parts of %v: %v", q, parts)
		}
		if impl.ProgDepth(q) != impl.ProgDepth(p)+1 {
			t.Fatalf("depth of %v: %d", q, impl.ProgDepth(q))
		}
	}
}

// Promise 34.
func TestPartsMakeThePrograms(t *testing.T) {
	for _, p := range programs() {
		parts := impl.ProgParts(p)
		if !same(slices.Concat(parts...), p) {
			t.Fatalf("parts of %v: %v", p, parts)
		}
		for _, part := range parts {
			again := impl.ProgParts(part)
			if !impl.ProgValid(part) || len(again) != 1 || !same(again[0], part) {
				t.Fatalf("part %v of %v: %v", part, p, again)
			}
			if len(part) != 1 && (part[0] != impl.OpOpen || part[len(part)-1] != impl.OpEnd || !fits(part[1:len(part)-1])) {
				t.Fatalf("part %v of %v", part, p)
			}
		}
	}
}

func TestPartsOfText(t *testing.T) {
	for text, want := range map[string][]string{
		"--":                             {},
		"3":                              {"3"},
		"3 [ dup * ] dip [ ] call":       {"3", "[ dup * ]", "dip", "[ ]", "call"},
		"[ [ 1 ] 2 [ ] ] [ [ [ ] ] ] if": {"[ [ 1 ] 2 [ ] ]", "[ [ [ ] ] ]", "if"},
		"[ ] [ ]":                        {"[ ]", "[ ]"},
	} {
		p, ok := impl.ReadProg(text)
		if !ok {
			t.Fatal(text)
		}
		got := []string{}
		for _, part := range impl.ProgParts(p) {
			got = append(got, impl.ProgText(part))
		}
		if !slices.Equal(got, want) {
			t.Fatalf("parts of %s: %q", text, got)
		}
	}
	for _, p := range badPrograms() {
		if parts := impl.ProgParts(p); parts != nil {
			t.Fatalf("parts of %v: %v", p, parts)
		}
	}
}

// Promise 35.
func TestDepthsAreThoseOfParts(t *testing.T) {
	list := programs()
	for i, p := range list {
		deepest := 0
		for _, part := range impl.ProgParts(p) {
			deepest = max(deepest, impl.ProgDepth(part))
		}
		if impl.ProgDepth(p) != deepest {
			t.Fatalf("depth of %v: %d", p, impl.ProgDepth(p))
		}
		for _, q := range list[i:] {
			for _, pq := range [][]int{slices.Concat(p, q), slices.Concat(q, p)} {
				if len(pq) <= impl.MaxWords && impl.ProgDepth(pq) != max(impl.ProgDepth(p), impl.ProgDepth(q)) {
					t.Fatalf("depth of %v: %d", pq, impl.ProgDepth(pq))
				}
			}
		}
	}
}

func TestDepths(t *testing.T) {
	for depth := range impl.MaxWords/2 + 1 {
		if got := impl.ProgDepth(nest(depth)); got != depth {
			t.Fatalf("%d brackets in each other: %d", depth, got)
		}
	}
	for text, want := range map[string]int{"--": 0, "1 dup +": 0, "[ ] [ ] [ ]": 1, "[ 1 [ ] ] [ ]": 2, "[ [ ] [ [ 1 ] 2 ] ] dip": 3} {
		p, ok := impl.ReadProg(text)
		if got := impl.ProgDepth(p); !ok || got != want {
			t.Fatalf("depth of %s: %d", text, got)
		}
	}
	for _, p := range badPrograms() {
		if got := impl.ProgDepth(p); got != -1 {
			t.Fatalf("depth of %v: %d", p, got)
		}
	}
}

// Promise 36.
func TestWordTextsAreRead(t *testing.T) {
	for w := -2000; w < 5000; w++ {
		want := wordTexts[w]
		if 0 <= w && w <= 999 {
			want = strconv.Itoa(w)
		}
		text := impl.WordText(w)
		if text != want {
			t.Fatalf("text of %d: %q", w, text)
		}
		if text == "" {
			continue
		}
		if got, ok := impl.ReadWord(text); !ok || got != w {
			t.Fatalf("%q is read as %d, %v", text, got, ok)
		}
	}
	for _, w := range []int{int(^uint(0) >> 1), -int(^uint(0)>>1) - 1} {
		if text := impl.WordText(w); text != "" {
			t.Fatalf("text of %d: %q", w, text)
		}
	}
}

// wordOf is the word of a text, looked up among the texts of all words.
func wordOf() map[string]int {
	words := map[string]int{}
	for n := range 1000 {
		words[strconv.Itoa(n)] = n
	}
	for w, text := range wordTexts {
		words[text] = w
	}
	return words
}

// Promise 37.
func TestReadWordsAreCanonical(t *testing.T) {
	words := wordOf()
	texts := textsOf([]string{"0", "1", "9", "+", "-", " ", "[", "]", "dup", "i", "f"}, 4)
	texts = append(texts, "1000", "9999", "00", "007", "0999", "+5", "-5", "-0", "--", "5.0", "1e2", "0x1", "1_0", "٣", "1\x00", "\xff", "1\xff",
		"Dup", "DUP", "du", "dupp", "drop ", "\tdrop", "drop\n", "swaps", "dips", "calls", "iff", "time", "[]", "**", "<<", "×", "18446744073709551617", strings.Repeat("9", 1000), strings.Repeat("0", 1000))
	for text := range words {
		texts = append(texts, text, text+" ", " "+text, "0"+text, "+"+text, "-"+text, text+"\n", text+"\x00", text+text)
	}
	for _, text := range texts {
		w, ok := impl.ReadWord(text)
		want, is := words[text]
		if !is {
			want = -1
		}
		if w != want || ok != is {
			t.Fatalf("%q is read as %d, %v", text, w, ok)
		}
		if ok && impl.WordText(w) != text {
			t.Fatalf("%q is read as the word of %q", text, impl.WordText(w))
		}
	}
}

// Promise 38.
func TestProgramTextsAreRead(t *testing.T) {
	for _, p := range programs() {
		texts := []string{}
		for _, w := range p {
			texts = append(texts, impl.WordText(w))
		}
		want := strings.Join(texts, " ")
		if len(p) == 0 {
			want = "--"
		}
		text := impl.ProgText(p)
		if text != want {
			t.Fatalf("text of %v: %q", p, text)
		}
		if got, ok := impl.ReadProg(text); !ok || !same(got, p) {
			t.Fatalf("%q is read as %v, %v", text, got, ok)
		}
	}
	for _, p := range badPrograms() {
		if text := impl.ProgText(p); text != "" {
			t.Fatalf("text of %v: %q", p, text)
		}
	}
}

// progOf reads a text by cutting it at spaces and looking up each word.
func progOf(words map[string]int, text string) ([]int, bool) {
	if text == "--" {
		return nil, true
	}
	var p []int
	for _, s := range strings.Split(text, " ") {
		w, ok := words[s]
		if !ok {
			return nil, false
		}
		p = append(p, w)
	}
	if len(p) > 60 || !fits(p) {
		return nil, false
	}
	return p, true
}

// Promise 39.
func TestReadProgramsAreCanonical(t *testing.T) {
	words := wordOf()
	texts := textsOf([]string{"0", "1", " ", "[", "]", "-", "dup", "\n"}, 6)
	for _, p := range programs() {
		s := impl.ProgText(p)
		texts = append(texts, s+" ", " "+s, s+"\n", s+"\t", s+"\x00", "0"+s, s+" ]", "[ "+s, s+" --", "-- "+s, s+" "+s, strings.ReplaceAll(s, " ", "  "), strings.ReplaceAll(s, " ", "\t"), strings.ReplaceAll(s, " ", ""), strings.ToUpper(s))
	}
	texts = append(texts, "\xff", "1 \xff", "1 \xe2", "\xe2 1", "1\u00a02", "1\u20002", "[ 007 ]", "1 -2", "1 +2", "1 1000", "-", "---", "- -", "1 --", "-- 1")
	for _, text := range texts {
		p, ok := impl.ReadProg(text)
		want, is := progOf(words, text)
		if ok != is || !same(p, want) || !ok && p != nil {
			t.Fatalf("%q is read as %v, %v", text, p, ok)
		}
		if ok && (!impl.ProgValid(p) || impl.ProgText(p) != text) {
			t.Fatalf("%q is read as %v, the program of %q", text, p, impl.ProgText(p))
		}
	}
}

func TestReadProgramBounds(t *testing.T) {
	for _, word := range []string{"0", "999", "times", "[ ]"} {
		many := 60 / len(strings.Fields(word))
		full := strings.TrimSuffix(strings.Repeat(word+" ", many), " ")
		if p, ok := impl.ReadProg(full); !ok || len(p) != 60 || impl.ProgText(p) != full {
			t.Fatalf("60 words: %v, %v", p, ok)
		}
		for _, more := range []string{full + " 1", "1 " + full, full + " ", full + " " + full, strings.Repeat(full+" ", 1000)} {
			if p, ok := impl.ReadProg(more); ok || p != nil {
				t.Fatalf("%d bytes: %v", len(more), p)
			}
		}
	}
	for _, text := range []string{"", " ", "  ", "[ 1", "1 ]", "] [", "[ ] ]", "[ [ ]", "[] 1", "[1]", "1  2", strings.Repeat(" ", 100)} {
		if p, ok := impl.ReadProg(text); ok || p != nil {
			t.Fatalf("%q is read as %v", text, p)
		}
	}
}

func TestStage1ArgumentsAreKept(t *testing.T) {
	for _, p := range append(programs(), badPrograms()...) {
		kept(t, p, func(p []int) {
			impl.ProgValid(p)
			impl.ProgText(p)
			impl.ProgDepth(p)
			then, _ := impl.ProgThen(p, nil)
			spoil(then)
			then, _ = impl.ProgThen(nil, p)
			spoil(then)
			then, _ = impl.ProgThen(p, []int{1, impl.OpDup})
			spoil(then)
			quote, _ := impl.ProgQuote(p)
			spoil(quote)
			for _, part := range impl.ProgParts(p) {
				spoil(part)
			}
		})
	}
}

func TestStage1ResultsShareNothing(t *testing.T) {
	for _, p := range programs() {
		parts := impl.ProgParts(p)
		whole := slices.Concat(parts...)
		for i, part := range parts {
			spoil(part)
			if rest := slices.Concat(parts[i+1:]...); !same(rest, whole[len(whole)-len(rest):]) {
				t.Fatalf("parts of %v share memory", p)
			}
		}
		text := impl.ProgText(p)
		first, _ := impl.ReadProg(text)
		second, _ := impl.ReadProg(text)
		spoil(first)
		if !same(second, p) {
			t.Fatalf("two programs read from %q share memory", text)
		}
	}
}
