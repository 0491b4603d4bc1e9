package tests

import (
	"math/rand"
	"slices"
	"strconv"
	"strings"
	"testing"

	"loop.example/stackwords/impl"
)

// exactTicks takes exactly MaxTicks steps, and leaves three numbers: 6 steps, 5 for each of 999 times, 998 between these, and the last one.
const exactTicks = "1 1 1 999 [ 1 drop 1 drop ] times"

// coded returns programs whose codes have many blocks, and others.
func coded() [][]int {
	list := programs()
	for _, p := range rowsOf(words("7 [ ]"), 8) {
		if fits(p) {
			list = append(list, p)
		}
	}
	r := rand.New(rand.NewSource(41))
	for range 100 {
		list = append(list, drawnRuled(r, impl.MaxWords), drawnRun(r, nil, 30))
	}
	return list
}

// goodCodes returns valid codes: those of programs, and others, whose blocks may have themselves.
func goodCodes() []impl.Code {
	var list []impl.Code
	for _, text := range []string{
		"", "1", ";", "#1;", "1; 2", "#1; #1", "#1; #2; #1", "#2; 1; #1", "#2 #2; 1; #1 #1", "dup; drop; swap; dip; call; +; -; *; <; if; times",
		"#1 call; #2 #2; #3 #3; #4 #4; #5 #5; #6 #6; #7 #7; #8 #8; 1", "0 999; 999", strings.Repeat(";", 59), strings.Repeat("#59 ;", 59), strings.Repeat("1 ;", 59) + "1", strings.Repeat("1 ", 119), "#1" + strings.Repeat(" 1", 117) + ";",
	} {
		list = append(list, codeIn(text))
	}
	for _, p := range coded() {
		list = append(list, modelCode(p))
	}
	r := rand.New(rand.NewSource(42))
	for range 300 {
		list = append(list, drawnCode(r), drawnTold(r, 25))
	}
	return list
}

// badCodes returns codes that are not valid, most of them in one thing only.
func badCodes() []impl.Code {
	back := impl.Ins{Kind: impl.InBack}
	good := func() impl.Code { return codeIn("3 #1 call; dup #2 call *; 1") } // begins at 0, 4 and 9
	list := []impl.Code{
		{}, {From: []int{0}}, {List: []impl.Ins{back}}, {List: []impl.Ins{}, From: []int{}}, {List: []impl.Ins{{Kind: impl.InNum, Arg: 1}}, From: []int{0}},
		codeIn(strings.Repeat(";", 60)), codeIn(strings.Repeat("1 ", 120)), codeIn("#1" + strings.Repeat(" 1", 118) + ";"), codeIn(strings.Repeat("1 ;", 60)), codeIn(strings.Repeat(";", 500)),
	}
	for _, from := range [][]int{nil, {0}, {4, 9}, {1, 4, 9}, {-1, 4, 9}, {0, 4}, {0, 9}, {0, 4, 9, 11}, {0, 4, 9, 9}, {0, 0, 4, 9}, {0, 4, 4, 9}, {0, 9, 4}, {4, 0, 9}, {0, 3, 9}, {0, 5, 9}, {0, 4, 8}, {0, 4, 10}, {0, 4, 9, 0}, {0, 4, maxInt}, {0, -maxInt - 1, 9}, make([]int, 1000)} {
		list = append(list, impl.Code{List: good().List, From: from})
	}
	for _, ins := range []impl.Ins{
		{Kind: -1}, {Kind: 4}, {Kind: maxInt}, {Kind: -maxInt - 1, Arg: 1}, {Kind: 5, Arg: 1001},
		{Kind: impl.InNum, Arg: -1}, {Kind: impl.InNum, Arg: 1000}, {Kind: impl.InNum, Arg: 1001}, {Kind: impl.InNum, Arg: maxInt}, {Kind: impl.InNum, Arg: -maxInt - 1},
		{Kind: impl.InBlock}, {Kind: impl.InBlock, Arg: -1}, {Kind: impl.InBlock, Arg: 3}, {Kind: impl.InBlock, Arg: 4}, {Kind: impl.InBlock, Arg: maxInt}, {Kind: impl.InBlock, Arg: -maxInt - 1},
		{Kind: impl.InWord}, {Kind: impl.InWord, Arg: 999}, {Kind: impl.InWord, Arg: 1000}, {Kind: impl.InWord, Arg: impl.OpOpen}, {Kind: impl.InWord, Arg: impl.OpEnd}, {Kind: impl.InWord, Arg: 1014}, {Kind: impl.InWord, Arg: -1}, {Kind: impl.InWord, Arg: maxInt},
		{Kind: impl.InBack}, {Kind: impl.InBack, Arg: 1}, {Kind: impl.InBack, Arg: -1},
	} {
		for _, place := range []int{0, 5, 9} {
			c := good()
			c.List[place] = ins
			list = append(list, c)
		}
	}
	for _, place := range []int{3, 8, 10} {
		for _, ins := range []impl.Ins{{Kind: impl.InBack, Arg: 1}, {Kind: impl.InBack, Arg: -1}, {Kind: impl.InBack, Arg: maxInt}, {Kind: impl.InNum, Arg: 1}, {Kind: impl.InWord, Arg: 1001}, {Kind: impl.InBlock, Arg: 1}} {
			c := good()
			c.List[place] = ins
			list = append(list, c)
		}
	}
	for _, ins := range []impl.Ins{{Kind: impl.InNum}, back, {Kind: impl.InBlock, Arg: 1}} {
		c := good()
		c.List = append(c.List, ins)
		list = append(list, c)
	}
	return list
}

func TestCodesOfText(t *testing.T) {
	for text, want := range map[string]string{
		"": "", "7": "7", "dup 999 times": "dup 999 times", "dup drop swap dip call + - * < if times": "dup drop swap dip call + - * < if times",
		"[ ]": "#1;", "[ ] [ ]": "#1 #2;;", "[ [ ] ]": "#1; #2;", "[ ] dup [ ]": "#1 dup #2;;", "[ [ ] ] [ ]": "#1 #3; #2;;", "[ ] [ [ ] ]": "#1 #2;; #3;", "[ [ ] [ ] ] [ [ ] ] 5": "#1 #4 5; #2 #3;;; #5;",
		"3 [ dup [ 1 ] call * ] call": "3 #1 call; dup #2 call *; 1", "[ [ 1 ] 2 [ 3 ] ] 4 [ 5 [ 6 ] ]": "#1 4 #4; #2 2 #3; 1; 3; 5 #5; 6", "[ [ [ 1 ] 2 ] 3 ] 4": "#1 4; #2 3; #3 2; 1",
		"[ 1 ] [ 1 ]": "#1 #2; 1; 1", "[ 1 ] [ 2 ] if": "#1 #2 if; 1; 2",
	} {
		p := words(text)
		c := impl.CodeOf(p)
		if !sameCode(c, codeIn(want)) {
			t.Fatalf("%s has the code %v, not %s", text, c, want)
		}
		if got, ok := impl.ProgOf(c, 0); !ok || !same(got, p) {
			t.Fatalf("%s is the program of block 0 of %s", written(got), text)
		}
	}
	c := impl.CodeOf(nil)
	if len(c.List) != 1 || c.List[0] != (impl.Ins{Kind: impl.InBack}) || !same(c.From, []int{0}) {
		t.Fatalf("the program without words has the code %v", c)
	}
}

// Promise 14, but for what is left.
func TestCodesOfPrograms(t *testing.T) {
	most := 0
	for _, p := range coded() {
		c := impl.CodeOf(p)
		if !sameCode(c, modelCode(p)) {
			t.Fatalf("%s has the code %v, not %v", written(p), c, modelCode(p))
		}
		if !impl.CodeValid(c) || len(c.List) != len(p)+1 {
			t.Fatalf("%s has the code %v", written(p), c)
		}
		if got, ok := impl.ProgOf(c, 0); !ok || !same(got, p) {
			t.Fatalf("%s has the code %v, whose block 0 is %s", written(p), c, written(got))
		}
		most = max(most, len(c.From))
	}
	if most != impl.MaxWords/2+1 {
		t.Fatalf("at most %d blocks", most)
	}
}

func TestOthersHaveNoCode(t *testing.T) {
	for _, p := range badPrograms() {
		if c := impl.CodeOf(p); len(c.List) > 0 || len(c.From) > 0 {
			t.Fatalf("%v has the code %v", p, c)
		}
	}
}

func TestCodesThatAreValid(t *testing.T) {
	for _, c := range goodCodes() {
		if !impl.CodeValid(c) || !modelCodeValid(c) {
			t.Fatalf("%v is not valid", c)
		}
	}
}

func TestCodesThatAreNone(t *testing.T) {
	for _, c := range badCodes() {
		if impl.CodeValid(c) || modelCodeValid(c) {
			t.Fatalf("%v is valid", c)
		}
	}
}

func TestCodeBounds(t *testing.T) {
	for _, x := range []struct {
		text           string
		blocks, instrs int
		want           bool
	}{
		{strings.Repeat(";", 59), 60, 60, true}, {strings.Repeat(";", 60), 61, 61, false},
		{strings.Repeat("1 ;", 59) + "1", 60, 120, true}, {strings.Repeat("1 ;", 59) + "1 1", 60, 121, false},
		{strings.Repeat("1 ", 119), 1, 120, true}, {strings.Repeat("1 ", 120), 1, 121, false},
		{strings.Repeat("#59 ;", 59), 60, 119, true}, {strings.Repeat("#60 ;", 59), 60, 119, false},
		{"#1;", 2, 3, true}, {"#2;", 2, 3, false}, {"#0;", 2, 3, false}, {"#1", 1, 2, false}, {"#0", 1, 2, false}, {"; #1", 2, 3, true},
	} {
		c := codeIn(x.text)
		if len(c.From) != x.blocks || len(c.List) != x.instrs {
			t.Fatalf("%q has %d blocks and %d instructions", x.text, len(c.From), len(c.List))
		}
		if got := impl.CodeValid(c); got != x.want {
			t.Fatalf("%q with %d blocks and %d instructions: %v", x.text, x.blocks, x.instrs, got)
		}
	}
}

// All codes of few instructions, with all places that are near, are as valid as the second version tells.
func TestSmallCodes(t *testing.T) {
	kinds := []impl.Ins{{Kind: 0, Arg: 5}, {Kind: 0, Arg: 1000}, {Kind: 1, Arg: 0}, {Kind: 1, Arg: 1}, {Kind: 1, Arg: 2}, {Kind: 2, Arg: 1001}, {Kind: 2, Arg: 1012}, {Kind: 3}, {Kind: 3, Arg: 1}, {Kind: 4}}
	froms := rowsOf([]int{0, 1, 2, 3, 4}, 3)
	valid := 0
	for _, places := range rowsOf([]int{0, 1, 2, 3, 4, 5, 6, 7, 8, 9}, 4) {
		list := []impl.Ins{}
		for _, i := range places {
			list = append(list, kinds[i])
		}
		for _, from := range froms {
			c := impl.Code{List: list, From: from}
			if got := impl.CodeValid(c); got != modelCodeValid(c) {
				t.Fatalf("%v: %v", c, got)
			} else if got {
				valid++
			}
		}
	}
	if valid < 50 {
		t.Fatalf("only %d are valid", valid)
	}
}

// Promise 52.
func TestCodesEnd(t *testing.T) {
	for _, c := range goodCodes() {
		if !impl.CodeValid(c) {
			t.Fatalf("%v is not valid", c)
		}
		last := len(c.List) - 1
		if d := (impl.Code{List: c.List[:last], From: c.From}); impl.CodeValid(d) {
			t.Fatalf("%v is valid", d)
		}
	}
}

func TestProgramsOfBlocks(t *testing.T) {
	for _, x := range []struct {
		text  string
		progs []string // none for no program
	}{
		{"", []string{""}}, {"1 dup +", []string{"1 dup +"}}, {"3 #1 call; dup #2 call *; 1", []string{"3 [ dup [ 1 ] call * ] call", "dup [ 1 ] call *", "1"}},
		{"#1;", []string{"[ ]", ""}}, {"#1 #1; #2 #2; 5", []string{"[ [ 5 ] [ 5 ] ] [ [ 5 ] [ 5 ] ]", "[ 5 ] [ 5 ]", "5"}},
		// Blocks in an order that CodeOf does not give, and one that is in no other.
		{"#2 #1; 1; 2 #1", []string{"[ 2 [ 1 ] ] [ 1 ]", "1", "2 [ 1 ]"}}, {"1; 2; 3", []string{"1", "2", "3"}},
		// Blocks that have themselves.
		{"#1; #1", []string{"none", "none"}}, {"1; #1", []string{"1", "none"}}, {"#2; 7 #1 8; 5", []string{"[ 5 ]", "none", "5"}},
		{"#1; #2; #1", []string{"none", "none", "none"}}, {"1; #2; #1", []string{"1", "none", "none"}}, {"#4; #2; #3; #1; 5 6", []string{"[ 5 6 ]", "none", "none", "none", "5 6"}},
		{"#1; 2 #2; #2", []string{"none", "none", "none"}}, {"#3 #1; 2 #2; 4; #3", []string{"none", "2 [ 4 ]", "4", "none"}}, {"#1 #3; 2 #2; 4; #3", []string{"none", "2 [ 4 ]", "4", "none"}},
		{"#1; #2 #3; ; #4; #3", []string{"none", "none", "", "none", "none"}},
	} {
		c := codeIn(x.text)
		for block, want := range x.progs {
			p, ok := impl.ProgOf(c, block)
			if want == "none" && (ok || p != nil) || want != "none" && (!ok || written(p) != want) {
				t.Fatalf("block %d of %s is %s, %v, not %s", block, x.text, written(p), ok, want)
			}
		}
		for _, block := range []int{-maxInt - 1, -100, -2, -1, len(x.progs), len(x.progs) + 1, 60, maxInt} {
			if p, ok := impl.ProgOf(c, block); ok || p != nil {
				t.Fatalf("block %d of %s is %s", block, x.text, written(p))
			}
		}
	}
}

func TestProgramsOfLongBlocks(t *testing.T) {
	for _, x := range []struct {
		text string
		want int // words of block 0, or -1
	}{
		{strings.Repeat("1 ", 60), 60}, {strings.Repeat("1 ", 61), -1}, {strings.Repeat("1 ", 119), -1},
		{strings.Repeat("#1 ", 30) + ";", 60}, {strings.Repeat("#1 ", 31) + ";", -1}, {strings.Repeat("#1 ", 30) + "5;", -1}, {"5" + strings.Repeat(" #1", 30) + ";", -1}, {"#1 " + strings.Repeat("1 ", 58) + ";", 60}, {strings.Repeat("1 ", 59) + "#1;", -1},
		{"#1;" + strings.Repeat("1 ", 58), 60}, {"#1;" + strings.Repeat("1 ", 59), -1}, {"#1 2;" + strings.Repeat("1 ", 58), -1}, {"#1 #1;" + strings.Repeat("1 ", 28), 60}, {"#1 #1;" + strings.Repeat("1 ", 29), -1},
		{"#1; #2 #2; #3 #3; #4 #4;", 30}, {"#1; #2 #2; #3 #3; #4 #4; #5 #5;", -1}, {"#1 #1; #2 #2; #3 #3; #4 #4;", 60}, {"#1 #1; #2 #2; #3 #3; #4 #4; 1", -1},
		{chain(30, 1), 60}, {chain(31, 1), -1}, {chain(59, 1), -1},
		// Another block has itself, which does not matter.
		{strings.Repeat("1 ", 60) + "; #1", 60}, {strings.Repeat("1 ", 61) + "; #1", -1}, {"#2; #1;" + strings.Repeat("1 ", 58), 60}, {"#2; #1;" + strings.Repeat("1 ", 59), -1},
	} {
		c := codeIn(x.text)
		p, ok := impl.ProgOf(c, 0)
		if ok != (x.want >= 0) || ok && len(p) != x.want || !ok && p != nil {
			t.Fatalf("block 0 of %s has %d words, %v, not %d", x.text, len(p), ok, x.want)
		}
		if want, _ := modelProg(c, 0); !same(p, want) {
			t.Fatalf("block 0 of %s is %s, not %s", x.text, written(p), written(want))
		}
	}
}

// chain returns the text of a code of blocks of which each has the next one so many times, and of one without words.
func chain(deep, times int) string {
	text := ""
	for i := range deep {
		text += strings.Repeat("#"+strconv.Itoa(i+1)+" ", times) + ";"
	}
	return text
}

func TestBlocksThatAreManyTimesAsLong(t *testing.T) {
	c := codeIn(chain(39, 2)) // its block 0 has more words than can be counted by going through them
	for block := range 40 {
		p, ok := impl.ProgOf(c, block)
		want, wantOk := modelProg(c, block)
		if ok != wantOk || !same(p, want) || ok != (block >= 35) {
			t.Fatalf("block %d has %d words, %v", block, len(p), ok)
		}
	}
}

// Promise 53.
func TestBlocksArePrograms(t *testing.T) {
	told, none, themselves := 0, 0, 0
	for _, c := range goodCodes() {
		sets := blocksIn(c)
		for block := -2; block < len(c.From)+2; block++ {
			p, ok := impl.ProgOf(c, block)
			want, wantOk := modelProg(c, block)
			if ok != wantOk || !same(p, want) {
				t.Fatalf("block %d of %s is %s, %v, not %s, %v", block, codeText(c), written(p), ok, written(want), wantOk)
			}
			if !ok {
				if none++; block >= 0 && block < len(sets) && sets[block][block] {
					themselves++
				}
				continue
			}
			told++
			d := impl.CodeOf(p)
			if q, ok := impl.ProgOf(d, 0); !impl.CodeValid(d) || !ok || !same(q, p) {
				t.Fatalf("block %d of %s is %s, which has the code %v", block, codeText(c), written(p), d)
			}
		}
	}
	if told < 2000 || none < 2000 || themselves < 300 {
		t.Fatalf("told %d, none %d, and %d have themselves", told, none, themselves)
	}
}

func TestTicksOfText(t *testing.T) {
	for _, x := range []struct {
		text, want string // as values: # and a number for a block
		ticks      int
	}{
		{"", "", 1}, {"5", "5", 2}, {"#1;", "#1", 2}, {"1 #2 #1; 7; 8", "1 #2 #1", 4}, {"1; 2; 3", "1", 2},
		{"1 dup", "1 1", 3}, {"#1 dup; 3", "#1 #1", 3}, {"1 2 drop", "1", 4}, {"1 #1 drop;", "1", 4}, {"1 2 swap", "2 1", 4}, {"1 #1 swap;", "#1 1", 4}, {"#1 #2 swap;;", "#2 #1", 4}, {"3 1 2 swap", "3 2 1", 5},
		{"1 2 +", "3", 4}, {"999 1 +", "0", 4}, {"999 999 +", "998", 4}, {"1 2 -", "999", 4}, {"2 1 -", "1", 4}, {"0 999 -", "1", 4}, {"3 4 *", "12", 4}, {"999 999 *", "1", 4}, {"1 2 <", "1", 4}, {"2 1 <", "0", 4}, {"2 2 <", "0", 4}, {"9 1 2 +", "9 3", 5},
		{"#1 call;", "", 4}, {"#1 call; 5", "5", 5}, {"#1 call 6; 5", "5 6", 6}, {"3 #1 call; dup #2 call *; 1", "3 3", 11}, {"#1 call; #2 call; #3 call; 4", "4", 11}, {"#1 #1 call swap call; 4", "4 4", 10},
		// The value is put back in a step of its own, behind the block.
		{"1 #1 dip;", "1", 6}, {"5 #1 dip; 6 7", "6 7 5", 8}, {"#1 #1 dip; 6", "6 #1", 7}, {"1 2 3 #1 dip; +", "3 3", 9}, {"1 2 #1 dip +; 5", "1 7", 9}, {"1 2 #1 dip; #2 dip; 5", "5 1 2", 12}, {"1 #1 #2 dip; 5; 6", "1 6 #1", 8}, {"5 #1 dip +; 6", "11", 8},
		// The lower program is done for all numbers but 0.
		{"1 #1 #2 if; 7; 8", "7", 7}, {"999 #1 #2 if; 7; 8", "7", 7}, {"0 #1 #2 if; 7; 8", "8", 7}, {"0 #1 #2 if; 7;", "", 6}, {"2 #1 #2 if;; 8", "", 6}, {"9 0 #1 #1 if; dup", "9 9", 8}, {"0 #1 #2 if call; #1; #3; 5", "5", 10},
		// A program is done so many times, with a step between two of them.
		{"0 #1 times;", "", 4}, {"0 #1 times; 5", "", 4}, {"1 #1 times;", "", 5}, {"1 #1 times; 5", "5", 6}, {"2 #1 times;", "", 7}, {"2 #1 times; 5", "5 5", 9}, {"3 #1 times; 5", "5 5 5", 12}, {"1 5 #1 times; 2 *", "32", 24}, {"999 #1 times;", "", 2001},
		{"7 0 #1 times 8; 5", "7 8", 6}, {"2 #1 times; 2 #2 times; 5", "5 5 5 5", 23}, {"2 #1 times 9; 5", "5 5 9", 10}, {"#1 3 #2 times; 4; dup", "#1 #1 #1 #1", 13},
		// A block that has itself may end, as it need not be done.
		{"#1 call; 5 #1 drop", "5", 7}, {"3 #1 call; dup #2 #3 if; 1 - #1 call; 4", "0 4", 41}, {"#1; #1", "#1", 2}, {"#1 call; #2; #1", "#2", 5},
	} {
		want := []int{}
		for _, s := range strings.Fields(x.want) {
			n := insIn(s).Arg
			if strings.HasPrefix(s, "#") {
				n = -1 - n
			}
			want = append(want, n)
		}
		left, ticks, ok := impl.TickRun(codeIn(x.text))
		if !ok || !same(left, want) || ticks != x.ticks {
			t.Fatalf("%s leaves %v in %d steps, %v, not %v in %d", x.text, left, ticks, ok, want, x.ticks)
		}
	}
}

// noTicks checks that nothing is told of a code.
func noTicks(t *testing.T, c impl.Code) {
	t.Helper()
	if left, ticks, ok := impl.TickRun(c); ok || left != nil || ticks != 0 {
		t.Fatalf("%v leaves %v in %d steps, %v", c, left, ticks, ok)
	}
}

func TestTicksThatCannotBeDone(t *testing.T) {
	for _, text := range []string{
		"dup", "drop", "swap", "1 swap", "dip", "#1 dip;", "call", "+", "1 +", "-", "1 -", "*", "1 *", "<", "1 <", "if", "#1 if;", "#1 #1 if;", "times", "#1 times;",
		"1 call", "1 1 dip", "#1 1 dip;", "1 #1 +;", "#1 1 +;", "#1 #1 -;", "1 #1 *;", "#1 1 *;", "1 #1 <;", "#1 1 <;",
		"#1 #1 #1 if;", "1 1 #1 if;", "1 #1 1 if;", "1 1 1 if", "0 1 #1 if;", "0 #1 1 if;", "1 1 times", "#1 #1 times;", "#1 1 times;", "0 0 times", "#1 0 times;",
		"#1 call; drop", "1 2 #1 dip; + +", "1 #1 dip; drop", "1 #1 #2 if; drop;", "0 #1 #2 if;; drop", "1 1 3 #1 times; drop", "1 drop drop", "#1 call +; 1", "5 #1 dip + +; 6",
	} {
		noTicks(t, codeIn(text))
	}
	// What cannot be done does not matter where it is not done.
	for _, text := range []string{"0 #1 times; drop", "1 #1 #2 if;; drop", "0 #1 #2 if; drop;", "#1 drop; drop", "; drop"} {
		if left, _, ok := impl.TickRun(codeIn(text)); !ok || len(left) > 0 {
			t.Fatalf("%s leaves %v, %v", text, left, ok)
		}
	}
}

func TestTicksOnFullStacks(t *testing.T) {
	for _, x := range []struct {
		numbers int // at first
		text    string
		want    int // values, or -1
	}{
		{20, "", 20}, {21, "", -1}, {19, "#1;", 20}, {20, "#1;", -1}, {19, "dup", 20}, {20, "dup", -1}, {20, "swap", 20}, {20, "drop", 19}, {20, "+", 19}, {20, "drop 1", 20}, {20, "drop 1 1", -1}, {20, "+ 1", 20}, {60, "", -1},
		{19, "#1 call;", 19}, {19, "#1 call; 5", 20}, {19, "#1 call; 5 5", -1}, {19, "#1 call 5; 5 drop", 20},
		// A value to be put back is not on the stack till then.
		{19, "#1 dip;", 19}, {19, "#1 dip; 5", 20}, {19, "#1 dip; 5 5", -1}, {19, "#1 dip; 5 5 drop", 20}, {19, "#1 dip; 5 5 5", -1}, {19, "#1 dip; 5 5 drop drop", 19}, {19, "#1 dip; 5 5 5 drop drop", -1},
		{18, "#1 #2 if;;", 17}, {18, "#1 #2 if; 5 5 5;", 20}, {18, "#1 #2 if; 5 5 5 5;", -1}, {17, "0 #1 #2 if;; 5 5 5", 20}, {18, "0 #1 #2 if;; 5 5", -1},
		// Nor is the number of times, nor the program.
		{18, "2 #1 times; 5", 20}, {18, "3 #1 times; 5", -1}, {18, "2 #1 times; 5 dup drop", -1}, {18, "2 #1 times 5; 5 drop", 19}, {19, "2 #1 times; 5", -1},
	} {
		c := codeIn(strings.Repeat("1 ", x.numbers) + x.text)
		left, _, ok := impl.TickRun(c)
		if ok != (x.want >= 0) || ok && len(left) != x.want {
			t.Fatalf("%d numbers and %s leave %d values, %v, not %d", x.numbers, x.text, len(left), ok, x.want)
		}
		if !ok {
			noTicks(t, c)
		}
	}
}

func TestMostTicks(t *testing.T) {
	for _, x := range []struct {
		text  string
		ticks int // or 0
	}{
		{exactTicks, 6000}, {exactTicks + " 1", 0}, {"1 " + exactTicks, 0}, {exactTicks + " dup", 0}, {exactTicks[2:], 5999}, {exactTicks[2:] + " 1", 6000}, {exactTicks[2:] + " 1 dup", 0}, {exactTicks[2:] + " [ ] call", 0}, {"[ ] drop " + exactTicks[2:], 0}, {"[ ] drop " + exactTicks[4:], 6000},
		{"999 [ 3 [ ] times ] times", 0}, {"749 [ 2 [ ] times ] times", 5995}, {"750 [ 2 [ ] times ] times", 0}, {"1 1 1 1 1 749 [ 2 [ ] times ] times", 6000}, {"1 1 1 1 1 1 749 [ 2 [ ] times ] times", 0},
		{"999 [ ] times", 2001}, {"999 [ ] times 999 [ ] times 998 [ ] times", 5999}, {"999 [ ] times 999 [ ] times 999 [ ] times", 0},
	} {
		c := impl.CodeOf(words(x.text))
		_, ticks, ok := impl.TickRun(c)
		if ok != (x.ticks > 0) || ticks != x.ticks {
			t.Fatalf("%s takes %d steps, %v, not %d", x.text, ticks, ok, x.ticks)
		}
		if !ok {
			noTicks(t, c)
		}
	}
	for _, text := range []string{"#1 dup call; dup call", "#1 call; #1 call", "#1 call; #2 call; #1 call", "1 #1 call; #1 dip", "#1 call; 1 #1 #1 if", "#1 call; 999 #1 times", "#1 call; 1 #1 dip", "#1 dup call; dup call 1 1 1"} {
		noTicks(t, codeIn(text))
	}
}

func TestTicksAreThoseOfTexts(t *testing.T) {
	told, not := 0, 0
	for _, c := range goodCodes() {
		want, wantTicks, wantOk := modelTicks(c)
		left, ticks, ok := impl.TickRun(c)
		if ok != wantOk || ticks != wantTicks || !same(left, want) {
			t.Fatalf("%s leaves %v in %d steps, %v, not %v in %d, %v", codeText(c), left, ticks, ok, want, wantTicks, wantOk)
		}
		if ok {
			told++
		} else {
			not++
		}
	}
	if told < 700 || not < 300 {
		t.Fatalf("told %d, not %d", told, not)
	}
}

// Promise 14.
func TestTheMachineLeavesWhatTheProgramLeaves(t *testing.T) {
	list := coded()
	for _, text := range []string{
		"", "5", "[ ]", "[ 1 ] dup", "2 3 [ 1 + ] dip -", "1 5 [ 2 * ] times [ 7 ]", "0 [ 1 ] [ [ 2 ] ] if", "9 [ 1 ] [ [ 2 ] ] if", "3 [ [ 1 ] ] times", "[ [ 1 ] [ 2 ] ] call swap", "5 [ dup [ 1 - ] dip ] call", exactFuel, "1 " + exactFuel,
		"[ " + strings.Repeat("1 ", 58) + "]", strings.Repeat("[ ", 30) + strings.Repeat("] ", 30), strings.Repeat("1 ", 20), "0 [ ] times", "[ ] [ call ] dip", "[ 1 ] [ [ 2 ] ] dip dip",
	} {
		list = append(list, words(text))
	}
	r := rand.New(rand.NewSource(43))
	for range 400 {
		list = append(list, drawnRun(r, nil, 40))
	}
	told, blocks := 0, 0
	for _, p := range list {
		want, _, ok := modelRun(p, nil)
		if !ok {
			continue
		}
		c := impl.CodeOf(p)
		left, ticks, ok := impl.TickRun(c)
		if !ok {
			if _, _, ok := modelTicks(c); ok {
				t.Fatalf("%s is not told", written(p))
			}
			continue
		}
		s, ok := impl.ValuesOf(c, left)
		if !ok || !sameStack(s, want) || ticks < 1 || ticks > impl.MaxTicks {
			t.Fatalf("%s leaves %q, and the machine %q, %v, in %d steps", written(p), stackTexts(want), stackTexts(s), ok, ticks)
		}
		told++
		if slices.ContainsFunc(left, func(v int) bool { return v < 0 }) {
			blocks++
		}
	}
	if told < 500 || blocks < 100 {
		t.Fatalf("only %d are told, %d with blocks", told, blocks)
	}
}

// Promise 15.
func TestTheProgramLeavesWhatTheMachineLeaves(t *testing.T) {
	told, blocks, themselves := 0, 0, 0
	for _, c := range goodCodes() {
		left, _, ok := impl.TickRun(c)
		if !ok {
			continue
		}
		for _, v := range left {
			if v > impl.MaxNum || -v-1 >= len(c.From) || v == -1 {
				t.Fatalf("%s leaves %v", codeText(c), left)
			}
			if v < 0 {
				blocks++
			}
		}
		p, ok := impl.ProgOf(c, 0)
		if !ok {
			themselves++
			continue
		}
		want, _, ok := impl.RunOf(p, nil)
		if !ok {
			continue
		}
		if s, ok := impl.ValuesOf(c, left); !ok || !sameStack(s, want) {
			t.Fatalf("%s leaves %q, %v, and %s %q", codeText(c), stackTexts(s), ok, written(p), stackTexts(want))
		}
		told++
	}
	if told < 500 || blocks < 500 || themselves < 20 {
		t.Fatalf("told %d, blocks %d, and %d with blocks that have themselves", told, blocks, themselves)
	}
	// The machine has room where the program has none, as the number of times and the program are not on the stack.
	p := words(strings.Repeat("1 ", 18) + "2 [ 1 ] times")
	left, _, ok := impl.TickRun(impl.CodeOf(p))
	if _, _, runOk := impl.RunOf(p, nil); !ok || len(left) != 20 || runOk {
		t.Fatalf("%v leaves %v, %v", p, left, ok)
	}
}

// Promise 54.
func TestValuesAreValues(t *testing.T) {
	r := rand.New(rand.NewSource(44))
	told, not := 0, 0
	for _, c := range goodCodes() {
		for _, most := range []int{4, 4, 22} {
			values := []int{}
			for range r.Intn(most) {
				v := r.Intn(impl.MaxNum + 1)
				if r.Intn(2) == 0 {
					v = -1 - r.Intn(len(c.From))
				}
				values = append(values, v)
			}
			s, ok := impl.ValuesOf(c, values)
			want, wantOk := modelValues(c, values)
			if ok != wantOk || ok && !sameStack(s, want) || !ok && s != nil {
				t.Fatalf("%v of %s are %q, %v, not %q, %v", values, codeText(c), stackTexts(s), ok, stackTexts(want), wantOk)
			}
			if !ok {
				not++
				continue
			}
			told++
			if len(s) != len(values) || !impl.StackOk(s) {
				t.Fatalf("%v of %s are %q", values, codeText(c), stackTexts(s))
			}
			for i, v := range values {
				if v >= 0 && !same(s[i], []int{v}) || v < 0 && !isProg(written(s[i])) {
					t.Fatalf("%d of %s is %s", v, codeText(c), written(s[i]))
				}
			}
		}
	}
	if told < 700 || not < 500 {
		t.Fatalf("told %d, not %d", told, not)
	}
}

func TestValueBoundsOfCodes(t *testing.T) {
	long := "#1 #2 #3; #2; " + strings.Repeat("1 ", 58) + "; #3; " + strings.Repeat("1 ", 20)
	for _, x := range []struct {
		code   string
		values []int
		want   string
		ok     bool
	}{
		{"", nil, "", true}, {"#1;", []int{}, "", true}, {"", []int{0}, "0", true}, {"", []int{999}, "999", true}, {"", []int{1000}, "", false}, {"", []int{1, 2, 1000}, "", false}, {"", []int{1000, 1}, "", false}, {"", []int{1001}, "", false}, {"", []int{maxInt}, "", false},
		{"", []int{-1}, "[ ]", true}, {"5 6", []int{-1, 5}, "[ 5 6 ],5", true}, {"5 6", []int{-2}, "", false}, {"#1; 7", []int{-2}, "[ 7 ]", true}, {"#1; 7", []int{-1}, "[ [ 7 ] ]", true}, {"#1; 7", []int{-3}, "", false}, {"#1; 7", []int{3, -2, -2, 4}, "3,[ 7 ],[ 7 ],4", true}, {"#1; 7", []int{-maxInt - 1}, "", false}, {"#1; 7", []int{-maxInt}, "", false}, {"#1; 7", []int{1, -60}, "", false},
		{"3 #1 call; dup #2 call *; 1", []int{-3, -2, 0}, "[ 1 ],[ dup [ 1 ] call * ],0", true},
		// One that is not told leaves nothing of the others.
		{"1; #1; 2", []int{-2}, "", false}, {"1; #1; 2", []int{-3}, "[ 2 ]", true}, {"1; #1; 2", []int{-3, -2}, "", false}, {"1; #1; 2", []int{-2, -3}, "", false}, {"1; #1; 2", []int{5, -1}, "5,[ 1 ]", true},
		{long, []int{-3}, "[ " + strings.Repeat("1 ", 58) + "]", true}, {long, []int{-2}, "", false}, {long, []int{-1}, "", false}, {long, []int{-4}, "", false}, {long, []int{-5}, "[ " + strings.Repeat("1 ", 20) + "]", true}, {long, []int{-3, -3}, "[ " + strings.Repeat("1 ", 58) + "],[ " + strings.Repeat("1 ", 58) + "]", true},
		{strings.Repeat("1 ", 58), []int{-1}, "[ " + strings.Repeat("1 ", 58) + "]", true}, {strings.Repeat("1 ", 59), []int{-1}, "", false}, {strings.Repeat("1 ", 60), []int{-1}, "", false}, {strings.Repeat("1 ", 61), []int{-1}, "", false},
		{"", row(7, 20), strings.Repeat("7,", 19) + "7", true}, {"", row(7, 21), "", false}, {"", row(7, 1000), "", false}, {"#1;", row(-2, 20), strings.Repeat("[ ],", 19) + "[ ]", true}, {"#1;", row(-2, 21), "", false},
	} {
		s, ok := impl.ValuesOf(codeIn(x.code), x.values)
		if ok != x.ok || !sameStack(s, values(x.want)) || !ok && s != nil {
			t.Fatalf("%v of %s are %q, %v, not %s, %v", x.values, x.code, stackTexts(s), ok, x.want, x.ok)
		}
	}
}

func TestCodesThatAreNoneLeaveNothing(t *testing.T) {
	for _, c := range badCodes() {
		noTicks(t, c)
		for _, block := range []int{-maxInt - 1, -1, 0, 1, 2, 3, maxInt} {
			if p, ok := impl.ProgOf(c, block); ok || p != nil {
				t.Fatalf("block %d of %v is %v", block, c, p)
			}
		}
		for _, values := range [][]int{nil, {}, {0}, {999}, {-1}, {-2}, {1, -3}, {1000}, row(1, 21)} {
			if s, ok := impl.ValuesOf(c, values); ok || s != nil {
				t.Fatalf("%v of %v are %v", values, c, s)
			}
		}
	}
}

// spoilCode writes over all of a code, its spare capacity as well.
func spoilCode(c impl.Code) {
	spoil(c.From)
	list := c.List[:cap(c.List)]
	for i := range list {
		list[i] = impl.Ins{Kind: -77, Arg: -77}
	}
}

func TestStage6ArgumentsAreKept(t *testing.T) {
	for _, p := range append(coded(), badPrograms()...) {
		kept(t, p, func(p []int) { spoilCode(impl.CodeOf(p)) })
	}
	for _, c := range append(goodCodes(), badCodes()...) {
		list := append(slices.Clone(c.List), impl.Ins{Kind: -5, Arg: -5}, impl.Ins{Kind: -5, Arg: -5})
		was := slices.Clone(list)
		kept(t, c.From, func(from []int) {
			given := impl.Code{List: list[:len(c.List)], From: from}
			impl.CodeValid(given)
			for block := range len(from) + 1 {
				p, _ := impl.ProgOf(given, block)
				spoil(p)
			}
			left, _, _ := impl.TickRun(given)
			for _, values := range [][]int{left, {-1, 3}, {-2, -2}, {1000}} {
				kept(t, values, func(values []int) {
					s, _ := impl.ValuesOf(given, values)
					spoilStack(s)
				})
			}
			spoil(left)
		})
		if !slices.Equal(list, was) {
			t.Fatalf("%v was written to: %v", was, list)
		}
	}
}

func TestStage6ResultsShareNothing(t *testing.T) {
	for _, p := range coded() {
		first, second := impl.CodeOf(p), impl.CodeOf(p)
		want := modelCode(p)
		spoilCode(first)
		if !sameCode(second, want) || !sameCode(impl.CodeOf(p), want) {
			t.Fatalf("codes of %s share memory", written(p))
		}
	}
	for _, c := range goodCodes() {
		for _, call := range []func() []int{
			func() []int { p, _ := impl.ProgOf(c, 0); return p },
			func() []int { p, _ := impl.ProgOf(c, len(c.From)-1); return p },
			func() []int { left, _, _ := impl.TickRun(c); return left },
		} {
			first, second := call(), call()
			want := slices.Clone(first)
			spoil(first)
			if !same(second, want) || !same(call(), want) {
				t.Fatalf("results for %s share memory", codeText(c))
			}
		}
		left, _, _ := impl.TickRun(c)
		s, _ := impl.ValuesOf(c, append(left, 5, 5, -1, -1)[:min(len(left)+4, 20)])
		alone(t, s)
	}
}
