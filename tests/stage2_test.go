package tests

import (
	"math/rand"
	"slices"
	"strings"
	"testing"

	"loop.example/stackwords/impl"
)

// full is a stack of so many values, told apart by their numbers.
func full(many int) [][]int {
	s := [][]int{}
	for n := range many {
		s = append(s, []int{n + 1})
	}
	return s
}

// quoted puts brackets around a row of any words.
func quoted(p []int) []int {
	return slices.Concat([]int{impl.OpOpen}, p, []int{impl.OpEnd})
}

func sameStack(s, t [][]int) bool {
	return slices.EqualFunc(s, t, same)
}

func sameState(t, u impl.State) bool {
	return same(t.Rest, u.Rest) && sameStack(t.Stack, u.Stack)
}

func isZero(t impl.State) bool {
	return len(t.Rest) == 0 && len(t.Stack) == 0
}

// withBottom returns a stack with one value more at the bottom.
func withBottom(v []int, s [][]int) [][]int {
	return slices.Concat([][]int{v}, s)
}

// badValues returns rows that are no values.
func badValues() [][]int {
	list := [][]int{nil, {}, {1, 2}, words("[ ] [ ]"), words("[ ] 1 [ ]"), words("[ ] ] [ [ ]"), words("1 [ ]"), words("[ ] 1"), words("] ["), words("[ ] ]"), words("[ [ ]"), {impl.OpOpen, 1}, {1, impl.OpEnd}}
	for w := impl.OpDup; w <= impl.OpEnd; w++ {
		list = append(list, []int{w})
	}
	for _, p := range badPrograms() {
		list = append(list, quoted(p))
		if len(p) == 1 {
			list = append(list, p)
		}
	}
	return append(list, quoted(row(1, 59)), quoted(row(1, 60)), quoted(nest(30)), quoted(row(1, 5000)))
}

// goodValues returns values: all kinds of small ones, and those at the bounds.
func goodValues() [][]int {
	list := [][]int{{0}, {1}, {7}, {999}, words("[ ]"), words("[ 1 ]"), words("[ dup ]"), words("[ [ ] ]"), words("[ [ 1 ] [ 2 + ] dip ]"), quoted(row(5, 58)), quoted(row(5, 57)), nest(30), quoted(slices.Repeat(words("[ ]"), 29))}
	r := rand.New(rand.NewSource(3))
	for range 40 {
		list = append(list, drawnValue(r))
	}
	return list
}

// goodStacks returns stacks: small ones, those at the bounds, and drawn ones.
func goodStacks() [][][]int {
	list := [][][]int{nil, {}, full(1), full(19), full(20), slices.Repeat([][]int{quoted(row(5, 58))}, 20), {quoted(row(5, 58))}, {quoted(row(5, 57)), {1}}, {quoted(row(5, 57)), {1}, {1}}}
	for _, v := range goodValues() {
		list = append(list, [][]int{v}, [][]int{v, {2}}, [][]int{{2}, v})
	}
	r := rand.New(rand.NewSource(4))
	for range 150 {
		list = append(list, drawnStack(r, 20), drawnStack(r, 4))
	}
	return list
}

// badStacks returns rows of rows that are no stacks.
func badStacks() [][][]int {
	list := [][][]int{full(21), full(50), slices.Repeat([][]int{words("[ ]")}, 21)}
	for _, v := range badValues() {
		list = append(list, [][]int{v}, [][]int{v, {1}}, [][]int{{1}, {2}, v}, withBottom(v, full(19)))
	}
	return list
}

// goodStates returns states: drawn ones, of which many can do some steps, and some at the bounds.
func goodStates() []impl.State {
	var list []impl.State
	r := rand.New(rand.NewSource(5))
	for range 400 {
		s := drawnStack(r, 20)
		list = append(list, impl.State{Rest: drawnRun(r, s, 20), Stack: s}, impl.State{Rest: drawn(r, 200), Stack: s})
	}
	for _, op := range rowsOf([]int{1001, 1002, 1003, 1004, 1005, 1006, 1007, 1008, 1009, 1010, 1011}, 1) {
		for range 60 {
			s := drawnStack(r, 5)
			list = append(list, impl.State{Rest: slices.Concat(op, drawn(r, 5)), Stack: s})
		}
		for _, many := range []int{0, 1, 2, 3, 18, 19, 20} {
			list = append(list, impl.State{Rest: op, Stack: full(many)}, impl.State{Rest: op, Stack: slices.Repeat([][]int{words("[ 3 4 ]")}, many)})
		}
	}
	for _, many := range []int{0, 19, 20} {
		for _, v := range [][]int{{0}, {999}, words("[ ]"), quoted(row(1, 58)), quoted(row(1, 59)), quoted(row(1, 500)), nest(30), nest(31), nest(400)} {
			list = append(list, impl.State{Rest: v, Stack: full(many)}, impl.State{Rest: slices.Concat(v, row(impl.OpDup, 100)), Stack: full(many)})
		}
	}
	return list
}

// badStates returns states whose rest or stack is none.
func badStates() []impl.State {
	var list []impl.State
	for _, p := range badPrograms() {
		if !fits(p) || slices.ContainsFunc(p, func(w int) bool { return !(0 <= w && w <= 999 || 1001 <= w && w <= 1013) }) {
			list = append(list, impl.State{Rest: p, Stack: full(3)}, impl.State{Rest: slices.Concat([]int{1}, p)}, impl.State{Rest: slices.Concat(row(1, 100), p)})
		}
	}
	for _, s := range badStacks() {
		list = append(list, impl.State{Stack: s}, impl.State{Rest: []int{1}, Stack: s}, impl.State{Rest: []int{impl.OpDrop, impl.OpDrop}, Stack: s})
	}
	return list
}

func TestValuesOfOneWord(t *testing.T) {
	for w := -20; w < 4000; w++ {
		if got := impl.ValueOk([]int{w}); got != (0 <= w && w <= 999) {
			t.Fatalf("ValueOk of %d: %v", w, got)
		}
	}
	if impl.ValueOk([]int{maxInt}) || impl.ValueOk([]int{-maxInt - 1}) {
		t.Fatal("great numbers")
	}
}

func TestValuesOfSmallRows(t *testing.T) {
	for _, v := range rowsOf([]int{3, 1000, impl.OpDup, impl.OpOpen, impl.OpEnd}, 6) {
		want := len(v) == 1 && v[0] == 3
		if len(v) >= 2 && v[0] == impl.OpOpen && v[len(v)-1] == impl.OpEnd {
			want = !slices.Contains(v, 1000) && fits(v[1:len(v)-1])
		}
		if got := impl.ValueOk(v); got != want {
			t.Fatalf("ValueOk of %v: %v", v, got)
		}
	}
}

func TestValueBounds(t *testing.T) {
	for _, v := range goodValues() {
		if !impl.ValueOk(v) {
			t.Fatalf("%v is a value", v)
		}
	}
	for _, v := range badValues() {
		if impl.ValueOk(v) {
			t.Fatalf("%v is no value", v)
		}
	}
	if !impl.ValueOk(quoted(row(impl.OpDup, 58))) || impl.ValueOk(quoted(row(impl.OpDup, 59))) {
		t.Fatal("60 words are a value, 61 are none")
	}
}

// Promise 40.
func TestValuesTakeOneStep(t *testing.T) {
	for _, v := range goodValues() {
		got, ok := impl.StepOf(impl.State{Rest: v})
		if !ok || !sameState(got, impl.State{Stack: [][]int{v}}) {
			t.Fatalf("a step of %v: %v, %v", v, got, ok)
		}
		s, steps, ok := impl.RunOf(v, nil)
		if !ok || steps != 1 || !sameStack(s, [][]int{v}) {
			t.Fatalf("%v leaves %v in %d steps, %v", v, s, steps, ok)
		}
	}
	for _, p := range programs() {
		if got := impl.ValueOk(quoted(p)); got != (len(p) <= 58) {
			t.Fatalf("ValueOk of %v in brackets: %v", p, got)
		}
	}
}

// Promise 41.
func TestStacksLoseValues(t *testing.T) {
	if !impl.StackOk(nil) || !impl.StackOk([][]int{}) {
		t.Fatal("the empty stack")
	}
	for _, s := range goodStacks() {
		for many := len(s); many >= 0; many-- {
			if !impl.StackOk(s[:many]) {
				t.Fatalf("%v is a stack", s[:many])
			}
		}
	}
}

func TestStackBounds(t *testing.T) {
	if !impl.StackOk(full(20)) || impl.StackOk(full(21)) {
		t.Fatal("20 values are a stack, 21 are none")
	}
	for _, s := range badStacks() {
		if impl.StackOk(s) {
			t.Fatalf("%v is no stack", s)
		}
	}
}

// Promise 1.
func TestStacksArePrograms(t *testing.T) {
	told := 0
	for _, s := range goodStacks() {
		p, ok := impl.StackProg(s)
		want := slices.Concat(s...)
		if ok != (len(want) <= 60) || !ok && p != nil {
			t.Fatalf("the program of %v: %v, %v", s, p, ok)
		}
		if !ok {
			continue
		}
		told++
		if !same(p, want) || !impl.ProgValid(p) {
			t.Fatalf("the program of %v: %v", s, p)
		}
		left, steps, ok := impl.RunOf(p, nil)
		if !ok || steps != len(s) || !sameStack(left, s) {
			t.Fatalf("%v leaves %v in %d steps, %v", p, left, steps, ok)
		}
		if again, ok := impl.ProgStack(p); !ok || !sameStack(again, s) {
			t.Fatalf("the stack of %v: %v, %v", p, again, ok)
		}
	}
	if told < 200 {
		t.Fatalf("only %d stacks have programs", told)
	}
}

func TestStackProgBounds(t *testing.T) {
	long := quoted(row(2, 57))
	if p, ok := impl.StackProg([][]int{long, {1}}); !ok || len(p) != 60 {
		t.Fatal(p, ok)
	}
	if p, ok := impl.StackProg([][]int{long, {1}, {1}}); ok || p != nil {
		t.Fatal(p, ok)
	}
	for _, s := range [][][]int{nil, {}} {
		if p, ok := impl.StackProg(s); !ok || len(p) != 0 {
			t.Fatal(p, ok)
		}
	}
	for _, s := range badStacks() {
		if p, ok := impl.StackProg(s); ok || p != nil {
			t.Fatalf("the program of %v: %v, %v", s, p, ok)
		}
	}
}

// Promise 42.
func TestProgramsOfValuesAreStacks(t *testing.T) {
	list := programs()
	for _, s := range goodStacks() {
		if p := slices.Concat(s...); len(p) <= 60 {
			list = append(list, p, slices.Concat(p, []int{impl.OpDup}), slices.Concat([]int{impl.OpDrop}, p))
		}
	}
	for _, p := range list {
		if len(p) > 60 {
			continue
		}
		parts := impl.ProgParts(p)
		want := len(parts) <= 20
		for _, part := range parts {
			want = want && (len(part) > 1 || part[0] <= 999)
		}
		s, ok := impl.ProgStack(p)
		if ok != want || !ok && s != nil {
			t.Fatalf("the stack of %v: %v, %v", p, s, ok)
		}
		if !ok {
			continue
		}
		if again, ok := impl.StackProg(s); !ok || !same(again, p) || !sameStack(s, parts) || !impl.StackOk(s) {
			t.Fatalf("the stack of %v: %v, and its program: %v, %v", p, s, again, ok)
		}
	}
}

func TestProgStackBounds(t *testing.T) {
	for _, p := range [][]int{row(7, 20), slices.Repeat(words("[ ]"), 20), slices.Concat(row(7, 19), words("[ dup 1 ]"))} {
		if s, ok := impl.ProgStack(p); !ok || len(s) != 20 {
			t.Fatal(s, ok)
		}
		if s, ok := impl.ProgStack(slices.Concat(p, []int{7})); ok || s != nil {
			t.Fatal(s, ok)
		}
	}
	for _, p := range [][]int{nil, {}} {
		if s, ok := impl.ProgStack(p); !ok || len(s) != 0 {
			t.Fatal(s, ok)
		}
	}
	for _, p := range badPrograms() {
		if s, ok := impl.ProgStack(p); ok || s != nil {
			t.Fatalf("the stack of %v: %v, %v", p, s, ok)
		}
	}
}

// Promise 43.
func TestStatesCanBeDone(t *testing.T) {
	for _, u := range goodStates() {
		if !impl.StateOk(u) {
			t.Fatalf("%v is a state", u)
		}
		if !impl.StateOk(impl.State{Stack: u.Stack}) {
			t.Fatalf("%v is a state without words, too", u)
		}
		if got, ok := impl.StepOf(impl.State{Stack: u.Stack}); ok || !isZero(got) {
			t.Fatalf("a step without words: %v, %v", got, ok)
		}
	}
	if !impl.StateOk(impl.State{}) {
		t.Fatal("the state that is empty")
	}
}

func TestStateBounds(t *testing.T) {
	for _, rest := range [][]int{row(1, 61), row(impl.OpDup, 5000), nest(400), quoted(row(3, 3000)), slices.Repeat(words("[ 1 ]"), 500)} {
		if !impl.StateOk(impl.State{Rest: rest, Stack: full(20)}) {
			t.Fatalf("a rest of %d words", len(rest))
		}
	}
	for w := -20; w < 4000; w++ {
		want := 0 <= w && w <= 999 || 1001 <= w && w <= 1011
		if got := impl.StateOk(impl.State{Rest: []int{1, w, 2}}); got != want {
			t.Fatalf("a rest with %d: %v", w, got)
		}
	}
	for _, u := range badStates() {
		if impl.StateOk(u) {
			t.Fatalf("%v is no state", u)
		}
		if got, ok := impl.StepOf(u); ok || !isZero(got) {
			t.Fatalf("a step of %v: %v, %v", u, got, ok)
		}
	}
}

func TestStepsOfText(t *testing.T) {
	for _, c := range [][4]string{ // the rest and the stack, and those behind the step
		{"5 dup", "1", "dup", "1,5"},
		{"0", "", "", "0"},
		{"[ dup [ 1 ] ] [ ] +", "7", "[ ] +", "7,[ dup [ 1 ] ]"},
		{"[ ]", "", "", "[ ]"},
		{"dup 1", "4,[ 2 ]", "1", "4,[ 2 ],[ 2 ]"},
		{"drop 1", "4,[ 2 ]", "1", "4"},
		{"swap", "3,4,[ 2 ]", "", "3,[ 2 ],4"},
		{"call 9", "4,[ 2 + [ ] ]", "2 + [ ] 9", "4"},
		{"call", "[ ]", "", ""},
		{"dip 9", "4,5,[ 2 + ]", "2 + 5 9", "4"},
		{"dip 9", "[ 1 drop ],[ ]", "[ 1 drop ] 9", ""},
		{"+ +", "1,2,3", "+", "1,5"},
		{"+", "999,1", "", "0"},
		{"+", "999,999", "", "998"},
		{"-", "5,3", "", "2"},
		{"-", "3,5", "", "998"},
		{"-", "0,999", "", "1"},
		{"-", "7,7", "", "0"},
		{"*", "999,999", "", "1"},
		{"*", "40,25", "", "0"},
		{"*", "12,12", "", "144"},
		{"<", "3,5", "", "1"},
		{"<", "5,3", "", "0"},
		{"<", "5,5", "", "0"},
		{"if 9", "1,[ 2 ],[ 3 4 ]", "2 9", ""},
		{"if 9", "0,[ 2 ],[ 3 4 ]", "3 4 9", ""},
		{"if 9", "8,999,[ 2 ],[ 3 4 ]", "2 9", "8"},
		{"times 9", "8,0,[ 2 + ]", "9", "8"},
		{"times 9", "8,1,[ 2 + ]", "2 + 0 [ 2 + ] times 9", "8"},
		{"times 9", "999,[ ]", "998 [ ] times 9", ""},
	} {
		got, ok := impl.StepOf(impl.State{Rest: words(c[0]), Stack: values(c[1])})
		if !ok || written(got.Rest) != c[2] || !sameStack(got.Stack, values(c[3])) {
			t.Fatalf("a step of %s on %s: %s on %v, %v", c[0], c[1], written(got.Rest), got.Stack, ok)
		}
	}
}

func TestStepsThatCannotBeDone(t *testing.T) {
	for _, c := range [][2]string{
		{"dup", ""}, {"drop", ""}, {"swap", ""}, {"swap", "1"}, {"swap", "[ ]"},
		{"call", ""}, {"call", "1"}, {"call", "[ ],1"},
		{"dip", ""}, {"dip", "[ ]"}, {"dip", "[ ],1"}, {"dip", "1,1"},
		{"if", ""}, {"if", "[ ],[ ]"}, {"if", "1,[ ]"}, {"if", "[ ],[ ],[ ]"}, {"if", "1,1,[ ]"}, {"if", "1,[ ],1"}, {"if", "0,1,[ ]"}, {"if", "[ ],1"},
		{"times", ""}, {"times", "[ ]"}, {"times", "1"}, {"times", "0,1"}, {"times", "[ ],[ ]"}, {"times", "[ ],1"},
	} {
		if got, ok := impl.StepOf(impl.State{Rest: words(c[0]), Stack: values(c[1])}); ok || !isZero(got) {
			t.Fatalf("a step of %s on %s: %v", c[0], c[1], got)
		}
		if s, n, ok := impl.RunOf(words(c[0]), values(c[1])); ok || s != nil || n != 0 {
			t.Fatalf("%s on %s leaves %v in %d steps", c[0], c[1], s, n)
		}
	}
	for _, op := range []string{"+", "-", "*", "<"} {
		for _, s := range []string{"", "1", "[ ]", "1,[ 1 ]", "[ 1 ],1", "[ ],[ ]", "2,3,[ 1 ]"} {
			if got, ok := impl.StepOf(impl.State{Rest: words(op), Stack: values(s)}); ok || !isZero(got) {
				t.Fatalf("a step of %s on %s: %v", op, s, got)
			}
		}
	}
}

func TestReckoning(t *testing.T) {
	for a := 0; a < 1000; a += 3 {
		for b := 0; b < 1000; b += 7 {
			less := 0
			if a < b {
				less = 1
			}
			for op, want := range map[int]int{impl.OpAdd: (a + b) % 1000, impl.OpSub: ((a-b)%1000 + 1000) % 1000, impl.OpMul: a * b % 1000, impl.OpLess: less} {
				got, ok := impl.StepOf(impl.State{Rest: []int{op}, Stack: [][]int{{a}, {b}}})
				if !ok || !sameState(got, impl.State{Stack: [][]int{{want}}}) {
					t.Fatalf("%d %d %s: %v, %v", a, b, wordTexts[op], got, ok)
				}
			}
		}
	}
}

func TestStepsOnFullStacks(t *testing.T) {
	for _, c := range []struct {
		rest string
		many int
		ok   bool
	}{
		{"1", 19, true}, {"1", 20, false}, {"[ ]", 19, true}, {"[ ]", 20, false}, {"dup", 19, true}, {"dup", 20, false},
		{"drop", 20, true}, {"swap", 20, true}, {"+", 20, true}, {"<", 20, true},
	} {
		got, ok := impl.StepOf(impl.State{Rest: words(c.rest), Stack: full(c.many)})
		if ok != c.ok || !ok && !isZero(got) || ok && !impl.StackOk(got.Stack) {
			t.Fatalf("a step of %s on %d values: %v, %v", c.rest, c.many, got, ok)
		}
	}
	for text, want := range map[string]bool{"[ 1 ] dip": false, "drop [ 1 ] dip": true, "[ 1 ] call": false, "drop drop 1 [ 2 ] call": true, "drop drop 0 [ 1 ] times": true} {
		s, _, ok := impl.RunOf(words(text), full(20))
		if ok != want || !ok && s != nil {
			t.Fatalf("%s on 20 values leaves %v, %v", text, s, ok)
		}
	}
	for _, many := range []int{58, 59, 60, 1000} {
		got, ok := impl.StepOf(impl.State{Rest: quoted(row(4, many))})
		if ok != (many == 58) || !ok && !isZero(got) || ok && !same(got.Stack[0], quoted(row(4, 58))) {
			t.Fatalf("a step that puts a value of %d words: %v, %v", many+2, got, ok)
		}
	}
	if got, ok := impl.StepOf(impl.State{Rest: row(4, 1000), Stack: full(2)}); !ok || len(got.Rest) != 999 || len(got.Stack) != 3 {
		t.Fatal("a step of a long rest", ok)
	}
}

// Every state that comes behind another one is held against the texts.
func TestStepsAreThoseOfTexts(t *testing.T) {
	done := 0
	for _, u := range goodStates() {
		for range 60 {
			rest, stack, want := modelStep(strings.Fields(written(u.Rest)), stackTexts(u.Stack))
			got, ok := impl.StepOf(u)
			if ok != want {
				t.Fatalf("a step of %s on %q: %v", written(u.Rest), stackTexts(u.Stack), ok)
			}
			if !ok {
				if !isZero(got) {
					t.Fatalf("no step of %v, and yet %v", u, got)
				}
				break
			}
			if written(got.Rest) != strings.Join(rest, " ") || !slices.Equal(stackTexts(got.Stack), stack) || !impl.StateOk(got) {
				t.Fatalf("a step of %s on %q: %v", written(u.Rest), stackTexts(u.Stack), got)
			}
			u = got
			done++
		}
	}
	if done < 5000 {
		t.Fatalf("only %d steps", done)
	}
}

// Promise 2.
func TestWhatIsBelowIsLeftAlone(t *testing.T) {
	more, behind := goodValues(), programs()
	r := rand.New(rand.NewSource(6))
	below, not := 0, 0
	for _, u := range goodStates() {
		for range 12 {
			next, ok := impl.StepOf(u)
			if !ok {
				break
			}
			v, q := more[r.Intn(len(more))], behind[r.Intn(len(behind))]
			got, ok := impl.StepOf(impl.State{Rest: u.Rest, Stack: withBottom(v, u.Stack)})
			if want := len(u.Stack) < 20 && len(next.Stack) < 20; ok != want {
				t.Fatalf("a step of %v with %v at the bottom: %v", u, v, ok)
			}
			if ok {
				below++
				if !sameState(got, impl.State{Rest: next.Rest, Stack: withBottom(v, next.Stack)}) {
					t.Fatalf("a step of %v with %v at the bottom: %v", u, v, got)
				}
			} else {
				not++
			}
			got, ok = impl.StepOf(impl.State{Rest: slices.Concat(u.Rest, q), Stack: u.Stack})
			if !ok || !sameState(got, impl.State{Rest: slices.Concat(next.Rest, q), Stack: next.Stack}) {
				t.Fatalf("a step of %v with %v behind: %v, %v", u, q, got, ok)
			}
			u = next
		}
	}
	if below < 2000 || not < 50 {
		t.Fatalf("only %d steps with a value more, and %d with one too many", below, not)
	}
}

func TestRunsAreThoseOfTexts(t *testing.T) {
	r := rand.New(rand.NewSource(7))
	told := 0
	for range 700 {
		s := drawnStack(r, 20)
		for _, p := range [][]int{drawnRun(r, s, 25), drawn(r, 60)} {
			want, wantSteps, wantOk := modelRun(p, s)
			got, steps, ok := impl.RunOf(p, s)
			if ok != wantOk || steps != wantSteps || !sameStack(got, want) || !ok && got != nil {
				t.Fatalf("%s on %q leaves %v in %d steps, %v", written(p), stackTexts(s), got, steps, ok)
			}
			if ok {
				told++
			}
		}
	}
	if told < 700 {
		t.Fatalf("only %d runs are told", told)
	}
}

// Promise 3.
func TestOneProgramBehindAnother(t *testing.T) {
	r := rand.New(rand.NewSource(8))
	both, bottom := 0, 0
	for range 1500 {
		s := drawnStack(r, 20)
		p := drawnRun(r, s, 12)
		mid, first, ok := impl.RunOf(p, s)
		if !ok {
			t.Fatalf("%s on %q is told", written(p), stackTexts(s))
		}
		q := drawnRun(r, mid, 12)
		if r.Intn(4) == 0 {
			q = drawn(r, 12)
		}
		left, second, qOk := impl.RunOf(q, mid)
		pq := slices.Concat(p, q)
		if len(pq) > 60 {
			continue
		}
		got, steps, ok := impl.RunOf(pq, s)
		if ok != (qOk && first+second <= 2000) {
			t.Fatalf("%s and %s on %q: %v", written(p), written(q), stackTexts(s), ok)
		}
		if !ok {
			continue
		}
		both++
		if steps != first+second || !sameStack(got, left) {
			t.Fatalf("%s and %s on %q leave %v in %d steps", written(p), written(q), stackTexts(s), got, steps)
		}
		v := drawnValue(r)
		if more, moreSteps, ok := impl.RunOf(pq, withBottom(v, s)); ok {
			bottom++
			if moreSteps != steps || !sameStack(more, withBottom(v, got)) {
				t.Fatalf("%s on %q with %v at the bottom leaves %v in %d steps", written(pq), stackTexts(s), v, more, moreSteps)
			}
		}
	}
	if both < 700 || bottom < 400 {
		t.Fatalf("only %d are told, %d with a value more", both, bottom)
	}
}

// A bottom that is one value too many only for the steps in between is not told.
func TestBottomThatIsTooMany(t *testing.T) {
	p := words("1 2 + drop")
	if s, n, ok := impl.RunOf(p, full(18)); !ok || n != 4 || !sameStack(s, full(18)) {
		t.Fatal(s, n, ok)
	}
	if s, n, ok := impl.RunOf(p, full(19)); ok || s != nil || n != 0 {
		t.Fatal(s, n, ok)
	}
}

func TestTimes(t *testing.T) {
	for text, want := range map[string]string{
		"0 [ 5 ] times":                        "",
		"1 [ 5 ] times":                        "5",
		"3 [ 5 ] times":                        "5,5,5",
		"7 0 [ drop drop drop ] times":         "7",
		"0 [ dup call ] times":                 "",
		"2 9 3 [ [ 1 + ] dip ] times":          "5,9",
		"1 9 [ 2 * ] times":                    "512",
		"0 3 [ 4 [ 1 + ] times ] times":        "12",
		"0 3 [ 0 [ 1 + ] times ] times":        "0",
		"[ 0 [ 1 ] times ] call 4":             "4",
		"5 dup 0 < [ 1 ] [ 0 [ 2 ] times ] if": "5",
	} {
		s, _, ok := impl.RunOf(words(text), nil)
		if !ok || !sameStack(s, values(want)) {
			t.Fatalf("%s leaves %v, %v", text, s, ok)
		}
	}
}

func TestFuel(t *testing.T) {
	exact := "665 [ ] times 1 1" // 3 steps, 3 for each of 665 times, and 2
	for text, want := range map[string]int{
		exact:                        2000,
		exact + " 1":                 0,
		exact + " [ 1 ]":             0,
		exact + " + +":               0,
		exact + " + + +":             0,
		"664 [ ] times 1 1":          1997,
		"664 [ ] times 1 1 +":        1998,
		"665 [ ] times 1":            1999,
		"665 [ ] times 1 drop":       2000,
		"665 [ ] times drop":         0,
		"665 [ ] times 1 +":          0,
		"666 [ ] times":              0,
		"399 [ 1 drop ] times 1 1":   2000,
		"399 [ 1 drop ] times 1 1 1": 0,
		"400 [ 1 drop ] times":       0,
		"999 [ ] times":              0,
	} {
		s, n, ok := impl.RunOf(words(text), nil)
		if n != want || ok != (want > 0) || !ok && s != nil {
			t.Fatalf("%s leaves %v in %d steps, %v", text, s, n, ok)
		}
	}
	if s, n, ok := impl.RunOf(nil, full(20)); !ok || n != 0 || !sameStack(s, full(20)) {
		t.Fatal("the program without words", s, n, ok)
	}
}

func TestProgramsThatNeverEnd(t *testing.T) {
	wide := "[ dup call " + strings.Repeat("dup call ", 27) + "] dup call"
	for _, text := range []string{
		"[ dup call ] dup call",
		"[ dup call ] [ dup call ] dup call",
		"[ 1 drop dup call ] dup call",
		"[ [ ] dip dup call ] dup call",
		"[ 1 swap dup call ] dup call",
		"[ dup dup call ] dup call",
		"[ dup call 7 ] dup call",
		"1 [ [ dup ] dip dup call ] dup call",
		"999 [ 999 [ 999 [ 1 drop ] times ] times ] times",
		"[ 0 [ ] [ dup call ] if ] dup call",
		wide,
	} {
		if s, n, ok := impl.RunOf(words(text), nil); ok || s != nil || n != 0 {
			t.Fatalf("%s leaves %v in %d steps", text, s, n)
		}
		if impl.SameOn(words(text), words(text), nil) {
			t.Fatalf("%s is not the same as itself", text)
		}
	}
}

func TestRunsOfOthers(t *testing.T) {
	for _, p := range badPrograms() {
		if s, n, ok := impl.RunOf(p, full(5)); ok || s != nil || n != 0 {
			t.Fatalf("%v leaves %v in %d steps", p, s, n)
		}
		if impl.SameOn(p, p, full(5)) || impl.SameOn(p, nil, nil) || impl.SameOn(nil, p, nil) {
			t.Fatalf("%v is not valid", p)
		}
	}
	for _, s := range badStacks() {
		for _, p := range [][]int{nil, {1}, {impl.OpDrop}} {
			if left, n, ok := impl.RunOf(p, s); ok || left != nil || n != 0 {
				t.Fatalf("%v on %v leaves %v in %d steps", p, s, left, n)
			}
			if impl.SameOn(p, p, s) {
				t.Fatalf("%v is no stack", s)
			}
		}
	}
}

// Promise 4.
func TestTheSameAheadOfOthers(t *testing.T) {
	r := rand.New(rand.NewSource(9))
	list := [][]int{nil, words("dup drop"), words("1 drop"), words("swap swap"), words("1 2 +"), words("3"), words("2 1 +"), words("[ 3 ] call"), words("0"), words("3 drop 3"), words("[ 3 ]"), words("drop"), words("dup"), words("1 [ 3 ] times"), words("1 [ drop 3 ] [ ] if")}
	equal, ahead := 0, 0
	for range 200 {
		s := drawnStack(r, 20)
		progs := append(slices.Clone(list), drawnRun(r, s, 6), drawn(r, 5))
		lefts, told := make([][][]int, len(progs)), make([]bool, len(progs))
		for i, p := range progs {
			lefts[i], _, told[i] = modelRun(p, s)
			if impl.SameOn(p, p, s) != told[i] {
				t.Fatalf("%s and itself on %q: %v", written(p), stackTexts(s), !told[i])
			}
		}
		for i, p := range progs {
			for j, q := range progs {
				want := told[i] && told[j] && sameStack(lefts[i], lefts[j])
				if got := impl.SameOn(p, q, s); got != want {
					t.Fatalf("%s and %s on %q: %v", written(p), written(q), stackTexts(s), got)
				}
				if !want {
					continue
				}
				equal++
				third := drawnRun(r, lefts[i], 4)
				pThen, qThen := slices.Concat(p, third), slices.Concat(q, third)
				_, _, pOk := impl.RunOf(pThen, s)
				_, _, qOk := impl.RunOf(qThen, s)
				if !pOk || !qOk {
					t.Fatalf("%s and %s, and then %s, on %q: %v, %v", written(p), written(q), written(third), stackTexts(s), pOk, qOk)
				}
				if len(third) > 0 {
					ahead++
				}
				if !impl.SameOn(pThen, qThen, s) {
					t.Fatalf("%s and %s, and then %s, on %q", written(p), written(q), written(third), stackTexts(s))
				}
			}
		}
	}
	if equal < 5000 || ahead < 5000 {
		t.Fatalf("only %d are the same, %d ahead of others", equal, ahead)
	}
}

func TestSameOn(t *testing.T) {
	for _, c := range []struct {
		p, q, s string
		want    bool
	}{
		{"", "", "", true}, {"1 2 +", "3", "", true}, {"1 2 +", "4", "", false}, {"1", "1 1", "", false}, {"1 1", "1", "", false},
		{"[ 1 ]", "[ 1 ] dup drop", "", true}, {"[ 1 ]", "[ 2 ]", "", false}, {"[ 1 2 + ]", "[ 3 ]", "", false}, {"1", "[ 1 ]", "", false},
		{"dup +", "2 *", "7", true}, {"dup +", "2 *", "[ ]", false}, {"dup +", "2 *", "", false}, {"dup", "", "", false}, {"", "dup", "", false},
		{"dup *", "dup +", "2", true}, {"dup *", "dup +", "3", false}, {"1 2", "2 1", "", false}, {"swap", "", "4,4", true}, {"swap", "", "4,5", false},
		{"665 [ ] times 1 1", "1 1", "", true}, {"665 [ ] times 1 1 1", "1 1 1", "", false},
	} {
		if got := impl.SameOn(words(c.p), words(c.q), values(c.s)); got != c.want {
			t.Fatalf("%q and %q on %q: %v", c.p, c.q, c.s, got)
		}
	}
}

// keptStack checks that a call wrote to nothing of the stack that it was given, nor to the capacity behind it.
func keptStack(t *testing.T, s [][]int, call func(s [][]int)) {
	t.Helper()
	given := [][]int{}
	for _, v := range s {
		given = append(given, append(slices.Clone(v), -5, -5)[:len(v)])
	}
	extra := []int{-6}
	given = append(given, extra, extra)
	call(given[:len(s)])
	for i, v := range given {
		if i >= len(s) {
			if !same(v, extra) {
				t.Fatalf("%v was written to behind its end", s)
			}
		} else if behind := v[:len(v)+2]; !same(v, s[i]) || behind[len(v)] != -5 || behind[len(v)+1] != -5 {
			t.Fatalf("%v was written to: %v", s[i], behind)
		}
	}
}

// spoilStack writes over all of a stack and of its values, their spare capacity as well.
func spoilStack(s [][]int) {
	s = s[:cap(s)]
	for i, v := range s {
		spoil(v)
		s[i] = []int{-78}
	}
}

func TestStage2ArgumentsAreKept(t *testing.T) {
	for _, u := range append(goodStates(), badStates()...) {
		kept(t, u.Rest, func(p []int) {
			keptStack(t, u.Stack, func(s [][]int) {
				impl.ValueOk(p)
				impl.StackOk(s)
				impl.StateOk(impl.State{Rest: p, Stack: s})
				impl.SameOn(p, p, s)
				prog, _ := impl.StackProg(s)
				spoil(prog)
				stack, _ := impl.ProgStack(p)
				spoilStack(stack)
				next, _ := impl.StepOf(impl.State{Rest: p, Stack: s})
				spoil(next.Rest)
				spoilStack(next.Stack)
				left, _, _ := impl.RunOf(p, s)
				spoilStack(left)
			})
		})
	}
}

// alone checks that the values of a stack share no memory with each other.
func alone(t *testing.T, s [][]int) {
	t.Helper()
	was := stackTexts(s)
	for i, v := range s {
		spoil(v)
		if got := stackTexts(s[i+1:]); !slices.Equal(got, was[i+1:]) {
			t.Fatalf("values of %q share memory", was)
		}
	}
}

func TestStage2ResultsShareNothing(t *testing.T) {
	one := []int{4}
	for _, v := range [][]int{one, words("[ 1 2 ]")} {
		for _, text := range []string{"dup", "dup 1", "swap", "drop"} {
			u, ok := impl.StepOf(impl.State{Rest: words(text), Stack: [][]int{v, v}})
			if !ok {
				t.Fatal(text)
			}
			spoil(u.Rest)
			alone(t, u.Stack)
		}
		left, _, ok := impl.RunOf(words("dup dup 3 [ dup ] times [ 1 ] dup"), [][]int{v, v})
		if !ok {
			t.Fatal(v)
		}
		alone(t, left)
	}
	for _, u := range goodStates() {
		if next, ok := impl.StepOf(u); ok {
			rest := slices.Clone(next.Rest)
			alone(t, next.Stack)
			if !same(next.Rest, rest) {
				t.Fatalf("the rest of %v shares memory with the stack", u)
			}
		}
		if s, ok := impl.ProgStack(u.Rest); ok {
			alone(t, s)
		}
	}
	s, _, _ := impl.RunOf(words("[ 1 ] dup"), nil)
	again, _, _ := impl.RunOf(words("[ 1 ] dup"), nil)
	spoilStack(s)
	if !sameStack(again, values("[ 1 ],[ 1 ]")) {
		t.Fatal("two runs share memory")
	}
}
