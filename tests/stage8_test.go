package tests

import (
	"maps"
	"math/rand"
	"slices"
	"strings"
	"testing"

	"loop.example/stackwords/impl"
)

// repeated is the text of so many times the same words.
func repeated(times int, text string) string {
	return strings.Repeat(text+" ", times)
}

// straight returns programs that have registers: all small ones of a few words, those at the bounds, and drawn ones.
func straight() [][]int {
	list := rowsOf(words("7 dup drop swap + -"), 4)
	list = append(list, rowsOf(words("1 dup swap -"), 6)...)
	for _, op := range []string{"7", "dup", "drop", "swap", "+", "<"} {
		for _, times := range []int{10, 18, 19, 20, 21, 59, 60} {
			list = append(list, words(repeated(times, op)))
		}
	}
	for _, text := range []string{repeated(20, "dup *"), repeated(30, "dup +"), repeated(20, "1 1 +"), repeated(15, "dup 1 + swap"), repeated(12, "dup 1 swap - +"), repeated(30, "drop dup"), repeated(19, "swap drop"), repeated(30, "999 *"), repeated(20, "dup 1 *")} {
		list = append(list, words(text))
	}
	r := rand.New(rand.NewSource(61))
	for range 400 {
		list = append(list, drawnCounted(r, 12), drawnCounted(r, impl.MaxWords), drawnStraight(r, 15), drawnStraight(r, impl.MaxWords))
	}
	return list
}

// notStraight returns valid programs that have no registers.
func notStraight() [][]int {
	var list [][]int
	for _, other := range []string{"dip", "call", "if", "times", "[ ]", "[ 1 ]", "[ dup + ] call", "[ ] dip", "[ ] drop", "1 [ ] [ ] if", "0 [ ] times", "[ [ ] ]"} {
		for _, text := range []string{"@", "1 @", "@ 1", "dup @ +", "1 2 + @", "@ drop swap", "+ + @ - -", "@ @", repeated(40, "1") + "@", "@ " + repeated(40, "dup"), repeated(20, "+") + "@ " + repeated(20, "1")} {
			list = append(list, words(strings.ReplaceAll(text, "@", other)))
		}
	}
	for _, op := range []int{impl.OpDip, impl.OpCall, impl.OpIf, impl.OpTimes} {
		list = append(list, append(row(1, impl.MaxWords-1), op), append([]int{op}, row(impl.OpDup, impl.MaxWords-1)...), row(op, impl.MaxWords))
	}
	return append(list, nest(30), append(row(1, 58), words("[ ]")...))
}

func noRegs(r impl.Regs) bool {
	return r.Takes == 0 && len(r.List) == 0 && len(r.Outs) == 0
}

func TestRegistersOfText(t *testing.T) {
	for _, x := range [][2]string{
		{"", "0 | | "}, {"7", "0 | | 7"}, {"0 999 7 7", "0 | | 0 999 7 7"}, {"1 2 3 swap", "0 | | 1 3 2"}, {"1 dup", "0 | | 1 1"}, {"1 drop", "0 | | "},
		{"dup", "1 | | i0 i0"}, {"drop", "1 | | "}, {"swap", "2 | | i1 i0"}, {"swap swap", "2 | | i0 i1"}, {"drop drop", "2 | | "}, {"swap drop", "2 | | i1"}, {"dup drop", "1 | | i0"}, {"1 swap", "1 | | 1 i0"}, {"dup 7 swap", "1 | | i0 7 i0"}, {"drop 1 swap", "2 | | 1 i0"}, {"drop drop drop swap", "5 | | i1 i0"},
		{"+", "2 | + i0 i1 | o0"}, {"-", "2 | - i0 i1 | o0"}, {"*", "2 | * i0 i1 | o0"}, {"<", "2 | < i0 i1 | o0"}, {"swap -", "2 | - i1 i0 | o0"}, {"dup <", "1 | < i0 i0 | o0"}, {"1 2 +", "0 | + 1 2 | o0"}, {"5 0 *", "0 | * 5 0 | o0"}, {"1 +", "1 | + i0 1 | o0"}, {"1 swap +", "1 | + 1 i0 | o0"}, {"1 2 + 3", "0 | + 1 2 | o0 3"},
		{"+ +", "3 | + i1 i2, + i0 o0 | o1"}, {"1 + +", "2 | + i1 1, + i0 o0 | o1"}, {"+ dup *", "2 | + i0 i1, * o0 o0 | o1"}, {"drop drop +", "4 | + i0 i1 | o0"}, {"1 2 + + +", "2 | + 1 2, + i1 o0, + i0 o1 | o2"}, {"< swap -", "3 | < i1 i2, - o0 i0 | o1"},
		// Operations that stand twice, and others that only look so.
		{"1 2 + 1 2 +", "0 | + 1 2 | o0 o0"}, {"1 2 + 2 1 +", "0 | + 1 2, + 2 1 | o0 o1"}, {"1 2 + 1 3 +", "0 | + 1 2, + 1 3 | o0 o1"}, {"1 2 + 1 2 -", "0 | + 1 2, - 1 2 | o0 o1"}, {"1 1 + 1 1 * 1 1 - 1 1 < 1 1 +", "0 | + 1 1, * 1 1, - 1 1, < 1 1 | o0 o1 o2 o3 o0"}, {"1 1 * 1 1 + 1 1 *", "0 | * 1 1, + 1 1 | o0 o1 o0"},
		{"dup 1 + swap 1 + *", "1 | + i0 1, * o0 o0 | o1"}, {"dup 1 + swap 1 swap +", "1 | + i0 1, + 1 i0 | o0 o1"}, {"dup 1 - swap 2 -", "1 | - i0 1, - i0 2 | o0 o1"}, {"dup dup * swap dup *", "1 | * i0 i0 | o0 o0"}, {"dup 1 + swap dup 1 - swap 1 *", "1 | + i0 1, - i0 1, * i0 1 | o0 o1 o2"}, {"1 + swap 1 +", "2 | + i1 1, + i0 1 | o0 o1"}, {"dup * swap dup *", "2 | * i1 i1, * i0 i0 | o0 o1"},
		{"dup 1 + dup 1 +", "1 | + i0 1, + o0 1 | i0 o0 o1"}, {"1 + dup 1 + swap 1 +", "1 | + i0 1, + o0 1 | o1 o1"}, {"1 + dup 1 + 1 +", "1 | + i0 1, + o0 1, + o1 1 | o0 o2"}, {"1 1 + 2", "0 | + 1 1 | o0 2"}, {"1 1 + 1 + 2 1 +", "0 | + 1 1, + o0 1, + 2 1 | o1 o2"}, {"1 1 + dup 1 + swap 1 + +", "0 | + 1 1, + o0 1, + o1 o1 | o2"},
		// Operations nobody takes.
		{"+ drop", "2 | + i0 i1 | "}, {"1 1 + drop 1 1 +", "0 | + 1 1 | o0"}, {"dup 1 + drop 1 +", "1 | + i0 1 | o0"}, {"dup 1 + drop 2 +", "1 | + i0 1, + i0 2 | o1"}, {"dup * drop 3", "1 | * i0 i0 | 3"}, {"- drop -", "4 | - i2 i3, - i0 i1 | o1"},
		{"dup * swap dup * +", "2 | * i1 i1, * i0 i0, + o0 o1 | o2"},
	} {
		r, ok := impl.RegsOf(words(x[0]))
		if !ok || regsText(r) != regsText(regsIn(x[1])) {
			t.Fatalf("%s has the registers %s, %v, not %s", x[0], regsText(r), ok, x[1])
		}
		if want, _ := modelRegs(words(x[0])); !sameRegs(r, want) {
			t.Fatalf("%s has the registers %s, not %s", x[0], regsText(r), regsText(want))
		}
	}
}

// Programs that take and leave as much as they can are told, though no stack is so high.
func TestRegistersOfLongPrograms(t *testing.T) {
	for _, x := range []struct {
		text             string
		takes, ops, outs int // takes is -1 if they are not told
		valid            bool
	}{
		{repeated(19, "+"), 20, 19, 1, true}, {repeated(20, "+"), 21, 20, 1, false}, {repeated(59, "+"), 60, 59, 1, false}, {repeated(60, "+"), 61, 60, 1, false}, {repeated(61, "+"), -1, 0, 0, false},
		{repeated(20, "drop"), 20, 0, 0, true}, {repeated(21, "drop"), 21, 0, 0, false}, {repeated(60, "drop"), 60, 0, 0, false}, {repeated(61, "drop"), -1, 0, 0, false}, {repeated(59, "drop") + "swap", 61, 0, 2, false}, {repeated(58, "drop") + "swap +", 60, 1, 1, false}, {repeated(60, "drop") + "swap", -1, 0, 0, false},
		{repeated(20, "7"), 0, 0, 20, true}, {repeated(21, "7"), 0, 0, 21, false}, {repeated(60, "7"), 0, 0, 60, false}, {repeated(61, "7"), -1, 0, 0, false}, {repeated(19, "dup"), 1, 0, 20, true}, {repeated(20, "dup"), 1, 0, 21, false}, {repeated(60, "dup"), 1, 0, 61, false}, {repeated(61, "dup"), -1, 0, 0, false},
		{repeated(60, "swap"), 2, 0, 2, true}, {repeated(61, "swap"), -1, 0, 0, false}, {repeated(30, "dup *"), 1, 30, 1, true}, {repeated(30, "dup *") + "1", -1, 0, 0, false}, {repeated(30, "1 +"), 1, 30, 1, true}, {repeated(20, "1 1 +"), 0, 1, 20, true}, {repeated(20, "dup 1 +"), 1, 20, 21, false}, {repeated(18, "dup 1 +") + "drop", 1, 18, 18, true}, {repeated(15, "dup 1 + drop"), 1, 1, 1, true}, {repeated(40, "dup") + repeated(20, "+"), 1, 20, 21, false}, {repeated(20, "dup") + repeated(40, "+"), 21, 40, 1, false},
	} {
		r, ok := impl.RegsOf(words(x.text))
		if ok != (x.takes >= 0) || r.Takes != max(x.takes, 0) || len(r.List) != x.ops || len(r.Outs) != x.outs {
			t.Fatalf("%s has the registers %s, %v", x.text, regsText(r), ok)
		}
		if impl.RegsValid(r) != (x.valid || !ok) {
			t.Fatalf("the registers %s of %s are valid: %v", regsText(r), x.text, !x.valid)
		}
	}
}

// Part of promise 20: each operation stands once.
func TestRegistersOfStraightPrograms(t *testing.T) {
	again := 0
	for _, p := range straight() {
		want, wantOk := modelRegs(p)
		r, ok := impl.RegsOf(p)
		if !ok || !wantOk || !sameRegs(r, want) {
			t.Fatalf("%s has the registers %s, %v, not %s", written(p), regsText(r), ok, regsText(want))
		}
		needed, left := impl.CountOf(p)
		if r.Takes != needed || len(r.Outs) != left {
			t.Fatalf("%s needs %d and leaves %d, and has the registers %s", written(p), needed, left, regsText(r))
		}
		if got := impl.RegsValid(r); got != (needed <= impl.MaxStack && left <= impl.MaxStack) {
			t.Fatalf("the registers %s are valid: %v", regsText(r), got)
		}
		ops := 0
		for _, w := range p {
			if w >= impl.OpAdd {
				ops++
			}
		}
		if ops > len(r.List) {
			again++
		}
		for i, op := range r.List {
			if slices.Contains(r.List[:i], op) {
				t.Fatalf("%s has an operation twice: %s", written(p), regsText(r))
			}
		}
	}
	if again < 100 {
		t.Fatalf("only %d do an operation again", again)
	}
}

func TestRegistersOfOthers(t *testing.T) {
	list := slices.Concat(notStraight(), badPrograms(), [][]int{row(1, 61), row(impl.OpAdd, 61), {1000}, {1, impl.OpDup - 1}, {impl.RegIn}, {impl.RegOut}, {1, -1, impl.OpAdd}, {impl.OpOpen}, {impl.OpEnd}, {1, impl.OpEnd}})
	for _, p := range programs() {
		if !isStraight(p) {
			list = append(list, p)
		}
	}
	for _, p := range list {
		if r, ok := impl.RegsOf(p); ok || !noRegs(r) {
			t.Fatalf("%v has the registers %v", p, r)
		}
		if impl.SameRegs(p, p) || impl.SameRegs(p, nil) || impl.SameRegs(nil, p) || impl.SameRegs(p, words("+")) || impl.SameRegs(words("+"), p) || impl.SameRegs(p, words("call")) {
			t.Fatalf("%v has the same registers as another one", p)
		}
	}
}

// numbersOn returns the stack of numbers.
func numbersOn(in []int) [][]int {
	s := [][]int{}
	for _, n := range in {
		s = append(s, []int{n})
	}
	return s
}

// leavesNumbers checks that a program leaves these numbers of others, unless more than MaxStack values are there in between, and returns whether it is told.
func leavesNumbers(t *testing.T, p []int, in, left []int) bool {
	t.Helper()
	got, steps, ok := impl.RunOf(p, numbersOn(in))
	if why, _ := impl.StopOf(p, numbersOn(in)); !ok && why != impl.StopFull {
		t.Fatalf("%s on %v stops with %d", written(p), in, why)
	}
	if ok && !sameStack(got, numbersOn(left)) {
		t.Fatalf("%s on %v leaves %v in %d steps, not %v", written(p), in, got, steps, left)
	}
	return ok
}

// Promise 20.
func TestRegistersLeaveWhatTheProgramLeaves(t *testing.T) {
	r := rand.New(rand.NewSource(62))
	told, over := 0, 0
	for _, p := range straight() {
		regs, _ := impl.RegsOf(p)
		for range 4 {
			in := drawnNums(r, regs.Takes)
			left, ok := impl.RegsRun(regs, in)
			if ok != impl.RegsValid(regs) {
				t.Fatalf("the registers %s of %v are told: %v", regsText(regs), in, ok)
			}
			if !ok {
				if got, _, ok := impl.RunOf(p, numbersOn(in)); ok {
					t.Fatalf("%s on %v leaves %v", written(p), in, got)
				}
				continue
			}
			if leavesNumbers(t, p, in, left) {
				told++
			} else {
				over++
			}
		}
	}
	if told < 5000 || over < 20 {
		t.Fatalf("told %d, over %d", told, over)
	}
}

// chainOf returns so many operations that each add 1 to the one before, from a number on.
func chainOf(many int) impl.Regs {
	r := impl.Regs{}
	for i := range many {
		op := impl.Op{Word: impl.OpAdd, A: 0, B: 1}
		if i > 0 {
			op.A = impl.RegOut + i - 1
		}
		r.List = append(r.List, op)
	}
	return r
}

// goodRegs returns valid registers, those at the bounds among them.
func goodRegs() []impl.Regs {
	list := []impl.Regs{{}, {Takes: 20}, {Outs: row(0, 20)}, chainOf(60), {Takes: 20, List: chainOf(60).List, Outs: row(impl.RegOut+59, 20)}, {Takes: 20, Outs: row(impl.RegIn+19, 20)}, {Takes: 1, List: chainOf(1).List, Outs: []int{0, 999, impl.RegIn, impl.RegOut}}}
	for _, text := range []string{
		"0 | | ", "0 | | 7", "1 | | i0", "1 | | ", "2 | | i1 i0", "2 | | i1 i1 i1", "3 | | i2 5 i0 i2", "20 | | i19", "20 | | i0", "0 | + 0 0 | ", "0 | - 999 999 | o0", "2 | + i0 i1 | o0", "2 | < i1 i0 | i0 o0 i1",
		"0 | + 1 1, + 1 1 | o0 o1", "1 | * i0 i0, * i0 i0, * o0 o1 | o2", "1 | + i0 5 | o0", "1 | + i0 5 | ", "1 | + i0 5 | 5", "1 | - i0 1, - o0 1, - o1 1 | o0 i0 o2", "2 | - i1 i0, * o0 o0, < o0 o1 | o2 o1 o0 7 i0",
	} {
		list = append(list, regsIn(text))
	}
	r := rand.New(rand.NewSource(63))
	for range 300 {
		list = append(list, drawnRegs(r, 3, 3, 3), drawnRegs(r, 6, 4, 2), drawnRegs(r, impl.MaxStack, 5, 1), drawnRegs(r, impl.MaxStack, impl.MaxWords, impl.MaxStack))
	}
	return list
}

// smallRegs returns all registers of at most two values that are taken, two operations and two values that are left, of a few kinds.
func smallRegs() []impl.Regs {
	var list []impl.Regs
	for takes := range 3 {
		in := []int{5, impl.RegIn, impl.RegIn + 1}[:takes+1]
		lists := [][]impl.Op{nil}
		for ops := range 2 {
			known := slices.Concat(in, []int{impl.RegOut}[:ops])
			for _, before := range lists {
				if len(before) < ops {
					continue
				}
				for _, a := range known {
					for _, b := range known {
						lists = append(lists, append(slices.Clone(before), impl.Op{Word: impl.OpSub, A: a, B: b}))
					}
				}
			}
		}
		for _, ops := range lists {
			for _, outs := range rowsOf(slices.Concat(in, []int{impl.RegOut, impl.RegOut + 1}[:len(ops)]), 2) {
				list = append(list, impl.Regs{Takes: takes, List: ops, Outs: outs})
			}
		}
	}
	return list
}

// badRegs returns registers that are not valid, each for one reason.
func badRegs() []impl.Regs {
	list := []impl.Regs{{Takes: -1}, {Takes: 21}, {Takes: maxInt}, {Takes: -maxInt - 1}, chainOf(61), chainOf(1000), {Outs: row(0, 21)}, {Outs: row(0, 1000)}, {Takes: 5, Outs: row(impl.RegIn, 21)}, {Takes: 21, Outs: []int{impl.RegIn + 20}}, {Takes: maxInt, Outs: []int{impl.RegIn + 20}}, {Takes: 1500, Outs: []int{impl.RegIn + 1200}}}
	for _, w := range []int{impl.OpAdd - 1, impl.OpLess + 1, 0, 7, -1, impl.OpDup, impl.OpDrop, impl.OpSwap, impl.OpDip, impl.OpIf, impl.OpTimes, impl.OpOpen, impl.OpEnd, impl.RegIn, maxInt, -maxInt - 1} {
		list = append(list, impl.Regs{List: []impl.Op{{Word: w}}}, impl.Regs{Takes: 2, List: []impl.Op{{Word: w, A: impl.RegIn, B: impl.RegIn + 1}}, Outs: []int{impl.RegOut}}, impl.Regs{List: append(chainOf(4).List, impl.Op{Word: w})})
	}
	for _, n := range []int{-1, impl.MaxNum + 1, impl.OpAdd, impl.RegIn - 1, impl.RegIn + 3, impl.RegIn + 20, impl.RegIn + 999, impl.RegOut - 1, impl.RegOut + 2, impl.RegOut + 3, impl.RegOut + 60, 4000, maxInt, -maxInt - 1, impl.RegIn - maxInt, impl.RegOut - maxInt} {
		known := []impl.Op{{Word: impl.OpAdd}, {Word: impl.OpSub, A: impl.RegIn + 2, B: impl.RegOut}}
		list = append(list, impl.Regs{Takes: 3, List: known, Outs: []int{n}}, impl.Regs{Takes: 3, List: known, Outs: []int{0, impl.RegIn, n, impl.RegOut + 1}})
		list = append(list, impl.Regs{Takes: 3, List: append(slices.Clone(known), impl.Op{Word: impl.OpMul, A: n, B: 1})}, impl.Regs{Takes: 3, List: append(slices.Clone(known), impl.Op{Word: impl.OpMul, A: 1, B: n})})
	}
	for _, text := range []string{
		"0 | | i0", "0 | | o0", "1 | | i1", "0 | + i0 1 | ", "0 | + 1 i0 | ", "1 | + i1 1 | ", "20 | | i20", "19 | | i19", "20 | + 1 i20 | ", "1 | - i0 i0 | o1", "1 | - i0 i0 | o0 o0 o1 o0",
		// An operation takes what it leaves itself, or what a later one leaves.
		"0 | + o0 1 | ", "0 | + 1 o0 | ", "0 | + o0 o0 | o0", "0 | + 1 1, + o1 1 | ", "0 | + 1 1, + 1 o1 | ", "0 | + o1 1, + 1 1 | ", "0 | + 1 o1, + 1 1 | o0", "0 | + 1 1, + o2 o0, + o0 o0 | ",
	} {
		list = append(list, regsIn(text))
	}
	return list
}

func TestRegistersThatAreValid(t *testing.T) {
	for _, r := range slices.Concat(goodRegs(), smallRegs()) {
		if !impl.RegsValid(r) || !modelRegsValid(r) {
			t.Fatalf("%s is not valid", regsText(r))
		}
	}
	for _, r := range badRegs() {
		if impl.RegsValid(r) || modelRegsValid(r) {
			t.Fatalf("%s is valid", regsText(r))
		}
	}
}

// broken returns valid registers with one number of them replaced, by one at a bound.
func broken(r *rand.Rand, regs impl.Regs) impl.Regs {
	regs.List, regs.Outs = slices.Clone(regs.List), slices.Clone(regs.Outs)
	n := []int{-1, 0, 999, 1000, 1005, 1006, 1009, 1010, 1999, 2000, 2000 + regs.Takes - 1, 2000 + regs.Takes, 2999, 3000, 3000 + len(regs.List) - 1, 3000 + len(regs.List), 3000 + len(regs.List)/2, 4000}[r.Intn(18)]
	kind := r.Intn(5)
	if kind < 3 && len(regs.List) > 0 {
		op := &regs.List[r.Intn(len(regs.List))]
		*[]*int{&op.Word, &op.A, &op.B}[kind] = n
	} else if kind == 3 && len(regs.Outs) > 0 {
		regs.Outs[r.Intn(len(regs.Outs))] = n
	} else {
		regs.Takes += r.Intn(5) - 2
	}
	return regs
}

func TestRegistersThatAreBroken(t *testing.T) {
	r := rand.New(rand.NewSource(64))
	var seen [2]int
	for range 10 {
		for _, good := range goodRegs() {
			regs := broken(r, good)
			want := modelRegsValid(regs)
			if got := impl.RegsValid(regs); got != want {
				t.Fatalf("%s is valid: %v", regsText(regs), got)
			}
			in := drawnNums(r, max(regs.Takes, 0))
			left, wantOk := modelRegsRun(regs, in)
			if got, ok := impl.RegsRun(regs, in); ok != wantOk || ok != want || !same(got, left) {
				t.Fatalf("%s of %v leaves %v, %v, not %v", regsText(regs), in, got, ok, left)
			}
			p, wantOk := modelFrom(regs)
			if got, ok := impl.ProgFrom(regs); ok != wantOk || ok && !same(got, p) || !ok && got != nil {
				t.Fatalf("%s has the program %s, %v, not %s", regsText(regs), written(got), ok, written(p))
			}
			if want {
				seen[1]++
			} else {
				seen[0]++
			}
		}
	}
	if slices.Min(seen[:]) < 1000 {
		t.Fatalf("too few: %v", seen)
	}
}

// Promise 57.
func TestRegistersMayLeaveNothing(t *testing.T) {
	if !impl.RegsValid(impl.Regs{}) || !impl.RegsValid(impl.Regs{List: []impl.Op{}, Outs: []int{}}) {
		t.Fatal("the ones that take, do and leave nothing are not valid")
	}
	for _, r := range slices.Concat(goodRegs(), smallRegs()) {
		r.Outs = nil
		if !impl.RegsValid(r) {
			t.Fatalf("%s is not valid", regsText(r))
		}
		if left, ok := impl.RegsRun(r, row(3, r.Takes)); !ok || len(left) != 0 {
			t.Fatalf("%s leaves %v, %v", regsText(r), left, ok)
		}
	}
}

func TestRunsOfRegisters(t *testing.T) {
	for _, x := range []struct {
		text     string
		in, want []int
	}{
		{"0 | | ", nil, nil}, {"0 | | 7 0 999", nil, []int{7, 0, 999}}, {"1 | | ", []int{5}, nil}, {"1 | | i0", []int{5}, []int{5}}, {"2 | | i1 i0 i1", []int{5, 6}, []int{6, 5, 6}}, {"3 | | i0 8 i2", []int{1, 2, 3}, []int{1, 8, 3}},
		{"2 | + i0 i1 | o0", []int{3, 4}, []int{7}}, {"2 | - i0 i1 | o0", []int{9, 4}, []int{5}}, {"2 | * i0 i1 | o0", []int{3, 4}, []int{12}}, {"2 | < i0 i1 | o0", []int{3, 4}, []int{1}}, {"2 | < i0 i1 | o0", []int{4, 3}, []int{0}}, {"2 | < i0 i1 | o0", []int{4, 4}, []int{0}}, {"2 | < i1 i0 | o0", []int{4, 3}, []int{1}}, {"2 | - i1 i0 | o0", []int{4, 9}, []int{5}},
		// Differences below 0, and sums and products from 1000 on.
		{"2 | - i0 i1 | o0", []int{4, 9}, []int{995}}, {"2 | - i0 i1 | o0", []int{0, 1}, []int{999}}, {"2 | - i0 i1 | o0", []int{0, 999}, []int{1}}, {"2 | - i0 i1 | o0", []int{0, 0}, []int{0}}, {"2 | - i0 i1 | o0", []int{999, 999}, []int{0}}, {"2 | - i0 i1 | o0", []int{998, 999}, []int{999}},
		{"2 | + i0 i1 | o0", []int{999, 0}, []int{999}}, {"2 | + i0 i1 | o0", []int{999, 1}, []int{0}}, {"2 | + i0 i1 | o0", []int{500, 501}, []int{1}}, {"2 | + i0 i1 | o0", []int{999, 999}, []int{998}}, {"2 | * i0 i1 | o0", []int{999, 1}, []int{999}}, {"2 | * i0 i1 | o0", []int{40, 25}, []int{0}}, {"2 | * i0 i1 | o0", []int{999, 999}, []int{1}}, {"2 | * i0 i1 | o0", []int{37, 28}, []int{36}}, {"2 | * i0 i1 | o0", []int{0, 999}, []int{0}},
		{"0 | - 1 2, + o0 2, * o0 o0 | o0 o1 o2", nil, []int{999, 1, 1}}, {"0 | + 1 1, + 1 1, + o0 o1 | o2", nil, []int{4}}, {"1 | + i0 5 | i0", []int{3}, []int{3}}, {"1 | + i0 5 | ", []int{3}, nil}, {"2 | * i1 i1, * i0 i0, + o0 o1 | o2", []int{3, 4}, []int{25}}, {"1 | - i0 1, - o0 1, - o1 1 | o2 o0 i0", []int{2}, []int{999, 1, 2}},
	} {
		r := regsIn(x.text)
		if got, ok := impl.RegsRun(r, x.in); !ok || !same(got, x.want) {
			t.Fatalf("%s of %v leaves %v, %v, not %v", x.text, x.in, got, ok, x.want)
		}
		if want, ok := modelRegsRun(r, x.in); !ok || !same(want, x.want) {
			t.Fatalf("%s of %v leaves %v, %v", x.text, x.in, want, ok)
		}
	}
}

// noRun checks that registers leave nothing that is told.
func noRun(t *testing.T, r impl.Regs, in []int) {
	t.Helper()
	if left, ok := impl.RegsRun(r, in); ok || left != nil {
		t.Fatalf("%s of %v leaves %v", regsText(r), in, left)
	}
}

func TestRunsOfOtherNumbers(t *testing.T) {
	r := rand.New(rand.NewSource(65))
	for _, regs := range slices.Concat(goodRegs(), smallRegs()[:200]) {
		in := drawnNums(r, regs.Takes)
		noRun(t, regs, append(slices.Clone(in), 0))
		noRun(t, regs, row(1, regs.Takes+20))
		for i := range in {
			noRun(t, regs, in[:i])
			for _, n := range []int{-1, impl.MaxNum + 1, impl.OpDup, impl.RegIn, impl.RegOut, maxInt, -maxInt - 1} {
				other := slices.Clone(in)
				other[i] = n
				noRun(t, regs, other)
			}
		}
	}
	for _, regs := range badRegs() {
		for _, in := range [][]int{nil, {1}, {1, 2}, {1, 2, 3}, row(1, 19), row(1, 20), row(1, 21)} {
			noRun(t, regs, in)
		}
		if regs.Takes > 20 && regs.Takes < 2000 {
			noRun(t, regs, row(1, regs.Takes))
		}
	}
}

// Promise 58.
func TestWhatIsLeftAreNumbers(t *testing.T) {
	r := rand.New(rand.NewSource(66))
	for _, regs := range slices.Concat(goodRegs(), smallRegs()) {
		for range 3 {
			in := drawnNums(r, regs.Takes)
			left, ok := impl.RegsRun(regs, in)
			if want, wantOk := modelRegsRun(regs, in); !ok || !wantOk || !same(left, want) || len(left) != len(regs.Outs) {
				t.Fatalf("%s of %v leaves %v, %v, not %v", regsText(regs), in, left, ok, want)
			}
			for _, n := range left {
				if n < 0 || n > impl.MaxNum {
					t.Fatalf("%s of %v leaves %v", regsText(regs), in, left)
				}
			}
		}
		// With other values left: all that are taken, in their order.
		regs.Outs = nil
		for i := range regs.Takes {
			regs.Outs = append(regs.Outs, impl.RegIn+i)
		}
		in := drawnNums(r, regs.Takes)
		if left, ok := impl.RegsRun(regs, in); !ok || !same(left, in) {
			t.Fatalf("%s of %v leaves %v, %v", regsText(regs), in, left, ok)
		}
	}
}

func TestSameRegistersOfText(t *testing.T) {
	for _, x := range []struct {
		p, q string
		want bool
	}{
		{"", "", true}, {"swap swap +", "+", true}, {"+", "swap +", false}, {"dup drop", "swap drop dup drop", false}, {"dup +", "dup swap +", true}, {"1 2 +", "2 1 +", false}, {"1 2 +", "1 2 swap swap +", true}, {"1 2 + 1 2 +", "1 2 + dup", true}, {"dup dup * swap dup *", "dup * dup", true}, {"dup 1 + swap 1 + *", "1 + dup *", true}, {"1 2 swap +", "2 1 +", true}, {"1 2 +", "3", false},
		// They differ in Takes alone.
		{"", "dup drop", false}, {"dup drop drop", "drop drop", false}, {"swap swap", "", false}, {"7", "drop 7", false}, {"drop", "drop drop", false}, {"1 1 +", "drop 1 1 +", false}, {"drop drop 1 2 *", "drop 1 2 *", false},
		// In the operations alone.
		{"+", "-", false}, {"+", "*", false}, {"-", "<", false}, {"-", "swap -", false}, {"1 +", "2 +", false}, {"1 1 + drop", "", false}, {"+ drop", "drop drop", false}, {"+ drop", "- drop", false}, {"1 1 + drop 7", "7", false}, {"+ 1 +", "+ 2 +", false}, {"dup 1 + drop dup 2 + drop", "dup 2 + drop dup 1 + drop", false},
		// In Outs alone.
		{"1", "2", false}, {"1", "", false}, {"dup", "dup dup", false}, {"1 2", "2 1", false}, {"swap", "swap swap", false}, {"dup", "dup drop", false}, {"+", "+ dup", false}, {"+", "+ drop", false}, {"+ 1", "+ 2", false}, {"+ 1", "1 swap swap + 1", false}, {"dup 1 + swap drop", "dup 1 + drop", false},
		{"call", "call", false}, {"[ ]", "[ ]", false}, {"", "call", false}, {"dip", "", false}, {"1 [ ] call", "1", false},
		{repeated(60, "+"), repeated(60, "+"), true}, {repeated(60, "drop"), repeated(59, "drop") + "dup", false}, {repeated(60, "dup"), repeated(30, "dup dup"), true}, {repeated(60, "swap"), repeated(58, "swap"), true}, {repeated(60, "swap"), repeated(59, "swap"), false}, {repeated(61, "+"), repeated(61, "+"), false}, {repeated(61, "swap"), "swap", false}, {"swap", repeated(61, "swap"), false},
	} {
		p, q := words(x.p), words(x.q)
		if impl.SameRegs(p, q) != x.want || impl.SameRegs(q, p) != x.want {
			t.Fatalf("%s and %s have the same registers: %v", x.p, x.q, !x.want)
		}
	}
}

// Promise 21.
func TestTheSameRegistersAreTheSamePrograms(t *testing.T) {
	r := rand.New(rand.NewSource(67))
	byRegs := map[string][][]int{}
	for _, p := range straight() {
		regs, _ := modelRegs(p)
		text := regsText(regs)
		byRegs[text] = append(byRegs[text], p)
	}
	equal, told, other := 0, 0, 0
	rows := slices.Sorted(maps.Keys(byRegs))
	for _, text := range rows {
		ps := byRegs[text]
		for _, q := range ps {
			p := ps[r.Intn(len(ps))]
			if !impl.SameRegs(p, q) || !impl.SameRegs(q, p) {
				t.Fatalf("%s and %s have not the same registers", written(p), written(q))
			}
			if slices.Equal(p, q) {
				continue
			}
			equal++
			regs, _ := impl.RegsOf(p)
			in := drawnNums(r, regs.Takes)
			left, _, leftOk := impl.RunOf(p, numbersOn(in))
			right, _, rightOk := impl.RunOf(q, numbersOn(in))
			if leftOk && rightOk {
				if told++; !sameStack(left, right) {
					t.Fatalf("%s on %v leaves %v, and %s %v", written(p), in, left, written(q), right)
				}
			}
		}
		for range 5 {
			if another := rows[r.Intn(len(rows))]; another != text {
				other++
				if p, q := ps[0], byRegs[another][0]; impl.SameRegs(p, q) || impl.SameRegs(q, p) {
					t.Fatalf("%s and %s have the same registers", written(p), written(q))
				}
			}
		}
	}
	if equal < 500 || told < 500 || other < 5000 {
		t.Fatalf("equal %d, told %d, other %d", equal, told, other)
	}
}

func TestProgramsFromText(t *testing.T) {
	for _, x := range [][2]string{
		{"0 | | ", ""}, {"0 | | 7", "7"}, {"0 | | 7 8 7", "7 8 7"}, {"1 | | ", "drop"}, {"2 | | ", "drop drop"}, {"1 | | 5", "5 [ drop ] dip"}, {"2 | | 5 6", "5 6 [ [ drop ] dip ] dip [ [ drop ] dip ] dip"},
		// What is taken is left: as it was, in another order, more than once, and not at all.
		{"1 | | i0", "dup [ drop ] dip"}, {"2 | | i0 i1", "[ dup ] dip swap [ dup ] dip swap [ [ drop ] dip ] dip [ [ drop ] dip ] dip"}, {"2 | | i1 i0", "dup [ [ dup ] dip ] dip [ swap ] dip swap [ [ drop ] dip ] dip [ [ drop ] dip ] dip"}, {"2 | | i1", "dup [ drop ] dip [ drop ] dip"}, {"2 | | i0", "[ dup ] dip swap [ drop ] dip [ drop ] dip"},
		{"1 | | i0 i0", "dup [ dup ] dip swap [ [ drop ] dip ] dip"}, {"3 | | i0", "[ [ dup ] dip ] dip [ swap ] dip swap [ drop ] dip [ drop ] dip [ drop ] dip"}, {"1 | | i0 7", "dup 7 [ [ drop ] dip ] dip"}, {"1 | | 7 i0", "7 [ dup ] dip swap [ [ drop ] dip ] dip"},
		{"0 | + 1 2 | o0", "1 2 + dup [ drop ] dip"}, {"0 | + 1 2 | ", "1 2 + drop"}, {"0 | - 5 5 | 3", "5 5 - 3 [ drop ] dip"}, {"0 | + 1 2, * 3 4 | ", "1 2 + 3 4 * drop drop"}, {"0 | + 1 2, * o0 o0 | ", "1 2 + dup [ dup ] dip swap * drop drop"}, {"0 | + 1 2, * 3 o0 | ", "1 2 + 3 [ dup ] dip swap * drop drop"}, {"0 | + 1 2, < o0 3 | ", "1 2 + dup 3 < drop drop"},
		{"1 | + i0 5 | o0", "dup 5 + dup [ drop ] dip [ drop ] dip"}, {"1 | + 5 i0 | o0", "5 [ dup ] dip swap + dup [ drop ] dip [ drop ] dip"}, {"1 | * i0 i0 | o0", "dup [ dup ] dip swap * dup [ drop ] dip [ drop ] dip"}, {"1 | * i0 i0 | i0", "dup [ dup ] dip swap * [ dup ] dip swap [ drop ] dip [ drop ] dip"},
		{"2 | - i0 i1 | o0", "[ dup ] dip swap [ dup ] dip swap - dup [ drop ] dip [ drop ] dip [ drop ] dip"}, {"2 | - i1 i0 | ", "dup [ [ dup ] dip ] dip [ swap ] dip swap - drop drop drop"}, {"1 | + i0 1, - i0 o0 | ", "dup 1 + [ dup ] dip swap [ dup ] dip swap - drop drop drop"}, {"0 | + 1 1, + 1 1 | o0", "1 1 + 1 1 + [ dup ] dip swap [ drop ] dip [ drop ] dip"},
	} {
		r := regsIn(x[0])
		got, ok := impl.ProgFrom(r)
		if !ok || written(got) != x[1] {
			t.Fatalf("%s has the program %s, %v, not %s", x[0], written(got), ok, x[1])
		}
		if want, ok := modelFrom(r); !ok || written(want) != x[1] {
			t.Fatalf("%s has the program %s, %v", x[0], written(want), ok)
		}
	}
}

func noProg(t *testing.T, r impl.Regs) {
	t.Helper()
	if p, ok := impl.ProgFrom(r); ok || p != nil {
		t.Fatalf("%s has the program %s", regsText(r), written(p))
	}
}

func TestLongProgramsFromRegisters(t *testing.T) {
	ops := func(takes, many int, outs ...int) impl.Regs {
		return impl.Regs{Takes: takes, List: slices.Repeat([]impl.Op{{Word: impl.OpAdd, A: 1, B: 2}}, many), Outs: outs}
	}
	for _, x := range []struct {
		r     impl.Regs
		words int // more than MaxWords are not counted
	}{
		{ops(0, 15), 60}, {ops(0, 16), 61}, {ops(1, 15), 61}, {ops(20, 10), 60}, {ops(19, 10), 59}, {ops(17, 11), 61}, {ops(20, 0), 20}, {ops(0, 60), 61}, {ops(0, 0, row(7, 20)...), 20},
		{ops(14, 0, 7), 57}, {ops(15, 0, 7), 61}, {ops(13, 1, 7), 60}, {ops(8, 4, 7), 61}, {ops(8, 0, 7, 8), 58}, {ops(9, 0, 7, 8), 61}, {ops(1, 0, row(5, 14)...), 57}, {ops(1, 0, row(5, 15)...), 61}, {ops(0, 1, row(5, 14)...), 60}, {ops(0, 1, row(5, 15)...), 61},
		{ops(5, 0, impl.RegIn), 55}, {ops(6, 0, impl.RegIn), 61}, {ops(20, 0, impl.RegIn), 61}, {ops(14, 0, impl.RegIn+13), 57}, {ops(15, 0, impl.RegIn+14), 61}, {ops(20, 60, row(impl.RegIn, 20)...), 61}, {ops(20, 60, row(impl.RegOut+59, 20)...), 61}, {ops(20, 60, row(impl.RegOut, 20)...), 61}, {chainOf(15), 60}, {chainOf(16), 61},
	} {
		want, ok := modelFrom(x.r)
		if ok != (x.words <= impl.MaxWords) || ok && len(want) != x.words {
			t.Fatalf("%s has the program %s, of %d words", regsText(x.r), written(want), len(want))
		}
		if !ok {
			noProg(t, x.r)
		} else if got, ok := impl.ProgFrom(x.r); !ok || !same(got, want) {
			t.Fatalf("%s has the program %s, %v", regsText(x.r), written(got), ok)
		}
	}
	for _, r := range badRegs() {
		noProg(t, r)
	}
}

// fromRegisters checks promise 22 for registers, and returns whether they have a program, and this an effect, and for how many rows of numbers it is told.
func fromRegisters(t *testing.T, r *rand.Rand, regs impl.Regs) (bool, bool, int) {
	t.Helper()
	want, wantOk := modelFrom(regs)
	p, ok := impl.ProgFrom(regs)
	if ok != wantOk || ok && !same(p, want) {
		t.Fatalf("%s has the program %s, %v, not %s", regsText(regs), written(p), ok, written(want))
	}
	if !ok {
		noProg(t, regs)
		return false, false, 0
	}
	if !impl.ProgValid(p) {
		t.Fatalf("%s has the program %s", regsText(regs), written(p))
	}
	told := 0
	for range 3 {
		in := drawnNums(r, regs.Takes)
		left, ok := impl.RegsRun(regs, in)
		if !ok {
			t.Fatalf("%s of %v is not told", regsText(regs), in)
		}
		if leavesNumbers(t, p, in, left) {
			told++
		}
	}
	e, typed := impl.EffectOf(p)
	if needed, left := impl.NeedsOf(e); typed && (needed != regs.Takes || left != len(regs.Outs)) {
		t.Fatalf("%s has the program %s, which needs %d and leaves %d", regsText(regs), written(p), needed, left)
	}
	return true, typed, told
}

// Promise 22.
func TestFromRegistersAProgramComesAgain(t *testing.T) {
	r := rand.New(rand.NewSource(68))
	fit, typed, told, long := 0, 0, 0, 0
	check := func(regs impl.Regs) {
		t.Helper()
		ok, hasEffect, many := fromRegisters(t, r, regs)
		told += many
		if hasEffect {
			typed++
		}
		if ok {
			fit++
		} else {
			long++
		}
	}
	for _, regs := range slices.Concat(goodRegs(), smallRegs()) {
		check(regs)
	}
	for _, p := range straight() {
		if regs, _ := impl.RegsOf(p); impl.RegsValid(regs) {
			check(regs)
		} else {
			noProg(t, regs)
		}
	}
	if fit < 2000 || typed < fit-50 || told < 6000 || long < 500 {
		t.Fatalf("fit %d, typed %d, told %d, long %d", fit, typed, told, long)
	}
}

// keptRegs checks that a call wrote to nothing of the registers that it was given, nor to the capacity behind their slices.
func keptRegs(t *testing.T, r impl.Regs, call func(r impl.Regs)) {
	t.Helper()
	more := impl.Op{Word: -5, A: -6, B: -7}
	given := append(slices.Clone(r.List), more, more, more)
	was := slices.Clone(given)
	kept(t, r.Outs, func(outs []int) {
		call(impl.Regs{Takes: r.Takes, List: given[:len(r.List)], Outs: outs})
	})
	if !slices.Equal(given, was) {
		t.Fatalf("%v was written to: %v", was, given)
	}
}

func spoilRegs(r impl.Regs) {
	spoil(r.Outs)
	list := r.List[:cap(r.List)]
	for i := range list {
		list[i] = impl.Op{Word: -77, A: -77, B: -77}
	}
}

func TestStage8ArgumentsAreKept(t *testing.T) {
	for _, p := range slices.Concat(straight(), notStraight(), badPrograms()) {
		kept(t, p, func(p []int) {
			r, _ := impl.RegsOf(p)
			spoilRegs(r)
			impl.SameRegs(p, p)
		})
	}
	r := rand.New(rand.NewSource(69))
	for _, regs := range slices.Concat(goodRegs(), badRegs()) {
		in := drawnNums(r, min(max(regs.Takes, 0), 25))
		keptRegs(t, regs, func(regs impl.Regs) {
			kept(t, in, func(in []int) {
				impl.RegsValid(regs)
				left, _ := impl.RegsRun(regs, in)
				spoil(left)
				p, _ := impl.ProgFrom(regs)
				spoil(p)
			})
		})
	}
}

func TestStage8ResultsShareNothing(t *testing.T) {
	for _, p := range straight() {
		first, _ := impl.RegsOf(p)
		second, _ := impl.RegsOf(p)
		want := regsText(first)
		spoilRegs(first)
		third, _ := impl.RegsOf(p)
		if regsText(second) != want || regsText(third) != want {
			t.Fatalf("the registers of %s share memory", written(p))
		}
	}
	r := rand.New(rand.NewSource(70))
	for _, regs := range goodRegs() {
		in := drawnNums(r, regs.Takes)
		for i, call := range []func() []int{
			func() []int { left, _ := impl.RegsRun(regs, in); return left },
			func() []int { p, _ := impl.ProgFrom(regs); return p },
		} {
			first, second := call(), call()
			want := slices.Clone(first)
			spoil(first)
			if !same(second, want) || !same(call(), want) {
				t.Fatalf("results of call %d of %s share memory", i, regsText(regs))
			}
		}
	}
}
