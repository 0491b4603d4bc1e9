package tests

import (
	"math/rand"
	"slices"
	"strings"
	"testing"

	"loop.example/stackwords/impl"
)

// exactFuel takes exactly MaxFuel steps, and leaves two numbers: 3 steps, 3 for each of 665 times, and 2.
const exactFuel = "665 [ ] times 1 1"

// brackets returns the text of so many programs without words, of which each has 6 numbers in a row.
func brackets(many int) string {
	return strings.Repeat("[ ] ", many)
}

// typed returns programs that have an effect.
func typed() [][]int {
	list := [][]int{nil}
	for w := range impl.OpOpen {
		if w < 3 || w >= impl.OpDup {
			list = append(list, []int{w})
		}
	}
	for _, text := range []string{
		"[ ]", "[ [ ] ]", "[ dup * ]", "[ call ] call", "[ dip ] dip", "[ call ] dip", "3 [ 2 * ] times", "< [ 1 ] [ 2 ] if", "[ swap ] times", "dup dip", "[ [ call ] ] dip",
		brackets(24), "dup drop " + brackets(24), strings.Repeat("drop ", 49), strings.Repeat("1 ", 60), strings.Repeat("[ ", 20) + strings.Repeat("] ", 20),
	} {
		list = append(list, words(text))
	}
	r := rand.New(rand.NewSource(21))
	for range 60 {
		list = append(list, drawnTyped(r, nil, 12, anyEffect))
	}
	return list
}

// Promise 48.
func TestEffectsOfWords(t *testing.T) {
	for w := range impl.OpOpen {
		if w > impl.MaxNum && w < impl.OpDup {
			continue
		}
		want, ok := effectOfWord[wordTexts[w]]
		if !ok {
			want = "r0 -> r0 n"
		}
		e, ok := impl.WordEffect(w)
		if !ok || !sameEffect(e, effect(want)) {
			t.Fatalf("%d has the effect %v, not %s", w, e, want)
		}
		n, m := impl.NeedsOf(e)
		if !impl.EffectOk(e) || n < 0 || n > 3 || m < 0 || m > 2 || impl.EffectText(e) != want {
			t.Fatalf("%d needs %d and leaves %d: %s", w, n, m, impl.EffectText(e))
		}
	}
}

func TestOthersHaveNoEffect(t *testing.T) {
	for _, w := range []int{impl.OpOpen, impl.OpEnd, -1, -2, 1000, 1014, 1015, 2000, 3003, maxInt, -maxInt - 1} {
		if e, ok := impl.WordEffect(w); ok || !noEffect(e) {
			t.Fatalf("%d has the effect %v", w, e)
		}
	}
}

func TestEffectsOfPrograms(t *testing.T) {
	for text, want := range map[string]string{
		"": nothing, "7": "r0 -> r0 n", "dup +": "r0 n -> r0 n", "swap drop": "r0 t0 t1 -> r0 t1", "drop drop": "r0 t0 t1 -> r0", "1 2 swap": "r0 -> r0 n n",
		"[ ]": "r0 -> r0 (r1 -> r1)", "[ drop ]": "r0 -> r0 (r1 t0 -> r1)", "[ [ dup ] ]": "r0 -> r0 (r1 -> r1 (r2 t0 -> r2 t0 t0))",
		"[ call ]": "r0 -> r0 (r1 (r1 -> r2) -> r2)", "[ [ call ] dip ]": "r0 -> r0 (r1 (r1 -> r2) t0 -> r2 t0)",
		"[ dup ] [ drop ]": "r0 -> r0 (r1 t0 -> r1 t0 t0) (r2 t1 -> r2)", "[ ] dup": "r0 -> r0 (r1 -> r1) (r1 -> r1)", "[ ] [ ]": "r0 -> r0 (r1 -> r1) (r2 -> r2)",
		"drop [ ]": "r0 t0 -> r0 (r1 -> r1)", "drop [ drop ]": "r0 t0 -> r0 (r1 t1 -> r1)",
		"dup dip": "r0 (r0 -> r1) -> r1 (r0 -> r1)", "[ dup dip ] dup dip call": "r0 (r0 -> r0) -> r0 (r0 -> r0)", "[ call ] call": "r0 (r0 -> r1) -> r1", "[ dup ] dip": "r0 t0 t1 -> r0 t0 t0 t1", "1 2 3 [ + ] dip": "r0 -> r0 n n",
		"3 [ 2 * ] times": "r0 n -> r0 n", "[ 1 drop ] times": "r0 n -> r0", "[ swap ] times": "r0 t0 t0 n -> r0 t0 t0",
		"< [ 1 ] [ 2 ] if": "r0 n n -> r0 n", "[ ] [ ] if": "r0 n -> r0", "[ drop 1 ] [ ] if": "r0 n n -> r0 n", "[ 1 ] [ dup ] if": "r0 n n -> r0 n n", "1 [ 1 ] [ [ ] drop 2 ] if": "r0 -> r0 n",
	} {
		e, ok := impl.EffectOf(words(text))
		if !ok || impl.EffectText(e) != want {
			t.Fatalf("%s has the effect %v, %s, not %s", text, e, impl.EffectText(e), want)
		}
	}
}

func TestProgramsWithoutEffect(t *testing.T) {
	for _, text := range []string{
		"dup call", "[ dup call ]", "[ dup call ] dup call", "1 dup [ dup call ] dip", "[ [ dup call ] ] drop", "dup [ call ] call",
		"[ 1 ] [ 2 3 ] if", "[ 1 ] [ ] if", "[ 1 ] [ [ ] ] if", "1 [ ] [ drop ] if", "[ 1 ] [ drop ] if",
		"3 [ 1 ] times", "[ dup ] times", "[ drop ] times", "1 [ drop 2 3 ] times", "[ drop [ ] [ ] ] times",
		"1 call", "1 dip", "[ ] +", "1 [ ] *", "[ ] 1 -", "[ ] 1 times", "1 1 times", "[ ] [ ] times", "[ ] [ ] [ ] if", "1 1 [ ] if", "1 [ ] 1 if",
		"[ 1 call ]", "[ [ 1 call ] ]", "[ 1 call ] drop", "0 [ 1 call ] times", "1 [ ] [ 1 call ] if", "1 [ 1 call ] [ ] if", "1 drop 1 call 2 3",
	} {
		if e, ok := impl.EffectOf(words(text)); ok || !noEffect(e) {
			t.Fatalf("%s has the effect %s", text, impl.EffectText(e))
		}
	}
	for _, p := range badPrograms() {
		if e, ok := impl.EffectOf(p); ok || !noEffect(e) {
			t.Fatalf("%v has the effect %v", p, e)
		}
	}
}

func TestEffectsThatAreLong(t *testing.T) {
	for text, want := range map[string]int{ // the numbers of the longer row, or 0
		brackets(24):                        146,
		brackets(24) + "1 1":                150,
		brackets(24) + "1 1 1":              0,
		brackets(24) + "1 1 1 drop":         0,
		brackets(25):                        0,
		brackets(25) + "drop drop":          0,
		"dup drop " + brackets(24):          149,
		"dup drop " + brackets(24) + "1":    0,
		strings.Repeat("drop ", 49):         149,
		strings.Repeat("drop ", 50):         0,
		strings.Repeat("drop ", 48) + "+":   150,
		strings.Repeat("drop ", 48) + "+ +": 0,
		strings.Repeat("drop ", 49) + "1 +": 0,
		strings.Repeat("1 ", 60):            122,
		strings.Repeat("dup ", 48):          149,
		strings.Repeat("dup ", 49):          0,

		"[ " + brackets(20) + strings.Repeat("1 ", 11) + "]":           150,
		"[ " + brackets(20) + strings.Repeat("1 ", 11) + "] drop":      2,
		"[ " + brackets(20) + strings.Repeat("1 ", 11) + "] call":      144,
		brackets(20) + strings.Repeat("1 ", 12):                        146,
		"[ " + brackets(20) + strings.Repeat("1 ", 12) + "]":           0,
		"[ " + brackets(20) + strings.Repeat("1 ", 12) + "] drop":      0,
		"[ " + brackets(20) + strings.Repeat("1 ", 12) + "] call":      0,
		"[ " + brackets(18) + strings.Repeat("1 ", 11) + "] [ ] drop":  138,
		"[ " + brackets(18) + strings.Repeat("1 ", 11) + "] dup drop":  0,
		"[ " + brackets(11) + "] dup":                                  146,
		"[ " + brackets(11) + "1 ] dup":                                150,
		"[ " + brackets(11) + "1 1 ] dup":                              0,
		strings.Repeat("[ ", 24) + "1 1 " + strings.Repeat("] ", 24):   150,
		strings.Repeat("[ ", 24) + "1 1 1 " + strings.Repeat("] ", 24): 0,
		strings.Repeat("[ ", 25) + strings.Repeat("] ", 25):            0,
		strings.Repeat("[ ", 30) + strings.Repeat("] ", 30):            0,
	} {
		e, ok := impl.EffectOf(words(text))
		if ok != (want > 0) || max(len(e.In), len(e.Out)) != want {
			t.Fatalf("%s has the effect %s with %d and %d numbers, not %d", text, impl.EffectText(e), len(e.In), len(e.Out), want)
		}
	}
}

func TestEffectsAreThoseOfParts(t *testing.T) {
	list := slices.Concat(programs(), typed(), rowsOf(words("1 dup swap dip call if"), 4))
	for _, p := range rowsOf(words("1 drop call times [ ]"), 5) {
		if fits(p) {
			list = append(list, p)
		}
	}
	told := 0
	for _, p := range list {
		want, wantOk := modelEffect(p)
		e, ok := impl.EffectOf(p)
		if ok != wantOk || !sameEffect(e, want) {
			t.Fatalf("%s has the effect %v, %v, not %v, %v", written(p), e, ok, want, wantOk)
		}
		if ok {
			told++
			if !impl.EffectOk(e) {
				t.Fatalf("%s has the effect %v", written(p), e)
			}
		}
	}
	if told < 300 {
		t.Fatalf("only %d have an effect", told)
	}
}

// Promise 7.
func TestProgramsBehindOthersHaveEffectsBehindOthers(t *testing.T) {
	r := rand.New(rand.NewSource(22))
	list := typed()
	told := 0
	for _, p := range list {
		for range 20 {
			q := list[r.Intn(len(list))]
			e, eOk := impl.EffectOf(p)
			f, fOk := impl.EffectOf(q)
			both, bothOk := impl.EffectThen(e, f)
			pq, fit := impl.ProgThen(p, q)
			whole, wholeOk := impl.EffectOf(pq)
			if !eOk || !fOk {
				t.Fatalf("%s and %s have no effect", written(p), written(q))
			}
			if fit && wholeOk && bothOk {
				if told++; !sameEffect(whole, both) {
					t.Fatalf("%s and then %s: %s, not %s", written(p), written(q), impl.EffectText(whole), impl.EffectText(both))
				}
			}
		}
	}
	if told < 500 {
		t.Fatalf("only %d are told", told)
	}
}

// Promise 7.
func TestProgramsThatAreCalledHaveTheirEffects(t *testing.T) {
	told := 0
	for _, p := range append(typed(), programs()...) {
		if len(p) > impl.MaxWords-3 {
			continue
		}
		e, ok := impl.EffectOf(p)
		called, calledOk := impl.EffectOf(slices.Concat(words("["), p, words("] call")))
		if calledOk && !ok {
			t.Fatalf("%s has an effect only if it is called", written(p))
		}
		if calledOk {
			if told++; !sameEffect(called, e) {
				t.Fatalf("%s has the effect %s, and called %s", written(p), impl.EffectText(e), impl.EffectText(called))
			}
		} else if ok && len(e.In)+len(e.Out) <= 146 {
			t.Fatalf("%s has no effect if it is called", written(p))
		}
	}
	if told < 60 {
		t.Fatalf("only %d are told", told)
	}
}

func TestReasonsToStop(t *testing.T) {
	for _, x := range []struct {
		text, stack string
		why, steps  int
	}{
		{"", "", 0, 0}, {"", "1,2", 0, 0}, {"1", "", 0, 1}, {"[ 1 2 ]", "", 0, 1}, {"[ 1 ] call", "", 0, 3}, {"+", "1,2", 0, 1}, {"0 [ 1 call ] times", "", 0, 3},
		{"dup", "", 1, 0}, {"drop", "", 1, 0}, {"swap", "", 1, 0}, {"swap", "1", 1, 0}, {"+", "", 1, 0}, {"-", "1", 1, 0}, {"*", "[ ],1", 1, 0}, {"<", "1,[ ]", 1, 0},
		{"call", "", 1, 0}, {"call", "1", 1, 0}, {"dip", "", 1, 0}, {"dip", "[ ]", 1, 0}, {"dip", "[ ],1", 1, 0}, {"times", "", 1, 0}, {"times", "[ ]", 1, 0}, {"times", "1,1", 1, 0}, {"times", "[ ],[ ]", 1, 0},
		{"if", "", 1, 0}, {"if", "[ ],[ ]", 1, 0}, {"if", "[ ],[ ],[ ]", 1, 0}, {"if", "1,1,[ ]", 1, 0}, {"if", "1,[ ],1", 1, 0},
		{"1 +", "", 1, 1}, {"1 2 3 drop drop drop drop", "", 1, 6}, {"[ drop ] call", "", 1, 2}, {"3 [ drop ] times", "1,2", 1, 11}, {"1 [ ] [ ] if drop", "", 1, 4}, {"1 2 + [ ] +", "", 1, 4},
		{"1 30 [ dup ] times", "", 3, 74}, {"999 [ 5 ] times", "", 3, 77},
		{"[ dup call ] dup call", "", 2, 2000}, {"999 [ ] times", "", 2, 2000},
		{exactFuel, "", 0, 2000}, {exactFuel + " 1", "", 2, 2000}, {exactFuel + " [ 1 ]", "", 2, 2000}, {exactFuel + " +", "", 2, 2000}, {exactFuel + " + + +", "", 2, 2000},
		{exactFuel + " call", "", 1, 2000}, {exactFuel + " if", "", 1, 2000}, {"665 [ ] times 1 drop drop", "", 1, 2000}, {"665 [ ] times 1 + +", "5", 1, 2000}, {"665 [ ] times 1 + +", "5,6", 2, 2000}, {"665 [ ] times 1 + + +", "5,6", 2, 2000},
		{"665 [ ] times 1", "", 0, 1999}, {"665 [ ] times 1 call", "", 1, 1999}, {"665 [ ] times drop", "", 1, 1998},
	} {
		why, steps := impl.StopOf(words(x.text), values(x.stack))
		if why != x.why || steps != x.steps {
			t.Fatalf("%s on %s stops because of %d behind %d steps, not %d and %d", x.text, x.stack, why, steps, x.why, x.steps)
		}
	}
}

func TestReasonsToStopOnFullStacks(t *testing.T) {
	withTop := func(many int, v string) [][]int { return append(full(many), words(v)) }
	long := quoted(row(5, 58))
	for _, x := range []struct {
		p          []int
		s          [][]int
		why, steps int
	}{
		{nil, full(20), 0, 0}, {words("1"), full(20), 3, 0}, {words("[ ]"), full(20), 3, 0}, {words("dup"), full(20), 3, 0},
		{words("1"), full(19), 0, 1}, {words("dup"), full(19), 0, 1}, {words("1 1"), full(19), 3, 1}, {words("1 [ 1 ]"), full(19), 3, 1}, {words("dup dup"), full(19), 3, 1},
		{words("drop 1 1"), full(20), 3, 2}, {words("swap swap"), full(20), 0, 2}, {words("+ + 1 1 1"), full(20), 3, 4},
		// None of these words can be done, however many values there are: that a stack is full is no reason then.
		{words("call"), full(20), 1, 0}, {words("dip"), full(20), 1, 0}, {words("if"), full(20), 1, 0}, {words("times"), full(20), 1, 0}, {words("+"), withTop(19, "[ ]"), 1, 0},
		{words("call"), withTop(19, "[ 1 ]"), 0, 2}, {words("call"), withTop(19, "[ 1 2 ]"), 3, 2}, {words("call"), withTop(19, "[ 1 + dup call ]"), 1, 4},
		{words(exactFuel), full(18), 0, 2000}, {words(exactFuel + " 1"), full(18), 3, 2000}, {words(exactFuel + " dup"), full(18), 3, 2000}, {words(exactFuel + " [ ]"), full(18), 3, 2000}, {words(exactFuel + " +"), full(18), 2, 2000}, {words(exactFuel + " 1 1"), full(17), 2, 2000},
		{words("665 [ ] times"), full(19), 3, 1},
		// No value becomes longer than MaxWords words, and those of as many are none that are too long.
		{long, nil, 0, 1}, {long, full(19), 0, 1}, {long, full(20), 3, 0}, {words("dup"), [][]int{long}, 0, 1}, {words("swap dup"), [][]int{long, long}, 0, 2}, {words("call"), [][]int{long}, 3, 21},
	} {
		why, steps := impl.StopOf(x.p, x.s)
		if why != x.why || steps != x.steps {
			t.Fatalf("%s on %q stops because of %d behind %d steps, not %d and %d", written(x.p), stackTexts(x.s), why, steps, x.why, x.steps)
		}
	}
}

// Promise 49.
func TestDoneIsToldByRuns(t *testing.T) {
	r := rand.New(rand.NewSource(23))
	var seen [4]int
	check := func(p []int, s [][]int) {
		t.Helper()
		why, steps := impl.StopOf(p, s)
		wantWhy, wantSteps := modelStop(p, s)
		if why != wantWhy || steps != wantSteps {
			t.Fatalf("%s on %q stops because of %d behind %d steps, not %d and %d", written(p), stackTexts(s), why, steps, wantWhy, wantSteps)
		}
		if _, many, ok := impl.RunOf(p, s); ok != (why == impl.StopDone) || ok && many != steps {
			t.Fatalf("%s on %q: %d behind %d steps, and %v behind %d steps", written(p), stackTexts(s), why, steps, ok, many)
		}
		seen[why]++
	}
	for _, p := range programs() {
		check(p, drawnStack(r, 4))
	}
	for range 1500 {
		s := drawnStack(r, 20)
		p := drawnRun(r, s, 5)
		check(p, s)
		check(slices.Concat(p, drawn(r, impl.MaxWords-len(p))), s)
	}
	for _, text := range []string{"[ dup call ] dup call", exactFuel, exactFuel + " 1", exactFuel + " + +", "999 [ 1 drop ] times", "1 [ 2 * dup call ] dup call"} {
		check(words(text), full(r.Intn(21)))
	}
	if slices.Min(seen[:]) < 3 {
		t.Fatalf("a reason is missing: %v", seen)
	}
}

func TestReasonsOfOthers(t *testing.T) {
	for _, p := range badPrograms() {
		for _, s := range [][][]int{nil, full(5), full(20)} {
			if why, n := impl.StopOf(p, s); why != -1 || n != 0 {
				t.Fatalf("%v stops because of %d behind %d steps", p, why, n)
			}
			if impl.SafeOn(p, s) {
				t.Fatalf("%v is safe", p)
			}
		}
		if n, m := impl.CountOf(p); n != -1 || m != -1 {
			t.Fatalf("%v needs %d and leaves %d", p, n, m)
		}
	}
	for _, s := range badStacks() {
		for _, p := range [][]int{nil, {1}, {impl.OpDrop}} {
			if why, n := impl.StopOf(p, s); why != -1 || n != 0 {
				t.Fatalf("%v on %v stops because of %d behind %d steps", p, s, why, n)
			}
			if impl.SafeOn(p, s) {
				t.Fatalf("%v is safe on %v", p, s)
			}
		}
	}
}

func TestSafePrograms(t *testing.T) {
	for _, x := range []struct {
		text, stack string
		want        bool
	}{
		{"", "", true}, {"", "1,[ ]", true}, {"1", "", true}, {"+", "1,2", true}, {"+", "1", false}, {"+", "", false}, {"+", "1,[ ]", false}, {"* *", "3,4", false}, {"1 + +", "3,4", true},
		{"drop", "", false}, {"dup drop", "", false}, {"swap", "1", false}, {"swap", "1,[ ]", true}, {"call", "[ 1 ]", true}, {"call", "[ drop ]", false}, {"call", "5,[ drop ]", true}, {"call", "1", false}, {"[ ] call", "", true}, {"[ call ] call", "", false},
		{"dip", "1,2,[ 3 ]", true}, {"dip", "1,2", false}, {"times", "3,4,[ 2 * ]", true}, {"times", "4,[ 2 * ]", false}, {"times", "4,[ 2 ]", false}, {"if", "1,[ 2 ],[ 3 ]", true},
		// They are done, or never end, but have no effect.
		{"if", "1,[ 2 ],[ 3 4 ]", false}, {"times", "0,[ 2 ]", false}, {"[ dup call ] dup call", "", false}, {"", "[ 1 call ]", false}, {"drop", "[ 1 call ]", false},
		// They make too many values, or take too many steps, and are safe.
		{"1 999 [ 2 * ] times", "", true}, {strings.Repeat("1 ", 21), "", true}, {"999 [ 999 [ ] times ] times", "", true},
	} {
		if got := impl.SafeOn(words(x.text), values(x.stack)); got != x.want {
			t.Fatalf("%s on %s: %v", x.text, x.stack, got)
		}
	}
}

func TestSafeBounds(t *testing.T) {
	long := quoted(row(5, 58))
	for _, x := range []struct {
		p    []int
		s    [][]int
		want bool
	}{
		{row(1, 40), full(20), true}, {row(1, 41), full(20), false}, {row(1, 60), full(20), false}, {row(1, 60), nil, true}, {row(1, 59), full(1), true}, {row(1, 60), full(1), false}, {row(impl.OpDrop, 20), full(20), true}, {row(impl.OpDrop, 21), full(20), false},
		{nil, [][]int{long}, true}, {words("drop"), [][]int{long}, false}, {nil, [][]int{long, {1}}, false}, {words("drop"), [][]int{quoted(row(5, 57))}, true}, {words("drop 1"), [][]int{quoted(row(5, 57))}, false},
		{words("1 1"), values(strings.Repeat("[ ],", 19) + "[ ] "), true}, {words(brackets(4) + "1 1"), values(strings.Repeat("[ ],", 19) + "[ ]"), true}, {words(brackets(4) + "1 1 1"), values(strings.Repeat("[ ],", 19) + "[ ]"), false},
	} {
		if got := impl.SafeOn(x.p, x.s); got != x.want {
			t.Fatalf("%s on %q: %v", written(x.p), stackTexts(x.s), got)
		}
	}
}

func TestSafeIsToldByEffects(t *testing.T) {
	r := rand.New(rand.NewSource(24))
	var seen [2]int
	for range 1500 {
		s := drawnStack(r, 4)
		p := slices.Concat(drawnRun(r, s, 4), drawn(r, 2))
		whole := slices.Concat(slices.Concat(s...), p)
		want := false
		if len(whole) <= impl.MaxWords {
			e, ok := modelEffect(whole)
			want = ok && needsNothing(e)
		}
		if got := impl.SafeOn(p, s); got != want {
			t.Fatalf("%s on %q: %v", written(p), stackTexts(s), got)
		}
		if want {
			seen[1]++
		} else {
			seen[0]++
		}
	}
	if slices.Min(seen[:]) < 200 {
		t.Fatal(seen)
	}
}

// Promise 8.
func TestWhatHasAnEffectIsNeverShort(t *testing.T) {
	r := rand.New(rand.NewSource(25))
	done, more, told := 0, 0, 0
	for range 250 {
		s := [][]int{}
		for _, v := range drawnStack(r, 5) {
			if _, ok := modelEffect(v); ok {
				s = append(s, v)
			}
		}
		p := drawnTyped(r, slices.Concat(s...), 15, needsNothing)
		if !impl.SafeOn(p, s) {
			t.Fatalf("%s on %q is not safe", written(p), stackTexts(s))
		}
		e, ok := impl.EffectOf(slices.Concat(slices.Concat(s...), p))
		why, _ := impl.StopOf(p, s)
		if !ok || why == impl.StopShort {
			t.Fatalf("%s on %q stops because of %d", written(p), stackTexts(s), why)
		}
		if left, _, ok := impl.RunOf(p, s); ok {
			done++
			if _, m := impl.NeedsOf(e); m != len(left) {
				t.Fatalf("%s on %q leaves %q, not %d values", written(p), stackTexts(s), stackTexts(left), m)
			}
		}
		state := impl.State{Rest: p, Stack: s}
		for range 100 {
			if state, ok = impl.StepOf(state); !ok {
				break
			}
			now, ok := impl.EffectOf(slices.Concat(slices.Concat(state.Stack...), state.Rest))
			if !ok {
				continue
			}
			told++
			if !impl.MoreGeneral(now, e) {
				t.Fatalf("%s on %q has the effect %s, and then, at %s on %q, %s", written(p), stackTexts(s), impl.EffectText(e), written(state.Rest), stackTexts(state.Stack), impl.EffectText(now))
			}
			if !sameEffect(now, e) {
				more++
			}
			e = now
		}
	}
	if done < 100 || told < 1000 || more < 10 {
		t.Fatalf("only %d are done, %d told, %d more general", done, told, more)
	}
}

func TestCounts(t *testing.T) {
	for text, want := range map[string][2]int{
		"": {0, 0}, "1": {0, 1}, "dup": {1, 2}, "drop": {1, 0}, "swap": {2, 2}, "+": {2, 1}, "-": {2, 1}, "*": {2, 1}, "<": {2, 1},
		"swap drop 5 +": {2, 1}, "1 +": {1, 1}, "+ +": {3, 1}, "drop drop drop": {3, 0}, "1 2 3": {0, 3}, "1 swap": {1, 2}, "dup +": {1, 1}, "1 2 + dup * <": {1, 1}, "1 drop drop": {1, 0}, "1 drop dup": {1, 2}, "drop 1": {1, 1}, "dup drop drop drop": {2, 0},
		strings.Repeat("1 ", 60): {0, 60}, strings.Repeat("dup ", 60): {1, 61}, strings.Repeat("drop ", 60): {60, 0}, strings.Repeat("+ ", 60): {61, 1}, strings.Repeat("swap ", 60): {2, 2},
	} {
		if n, m := impl.CountOf(words(text)); n != want[0] || m != want[1] {
			t.Fatalf("%s needs %d and leaves %d, not %v", text, n, m, want)
		}
	}
	for _, text := range []string{
		"dip", "call", "if", "times", "[ ]", "[ 1 ]", "1 [ ] drop", "1 2 dip", "call 1", "1 1 times 1", "[ dup ] call", "dup if +", "[ ] [ ]", "1 2 + [ 3 ]",
	} {
		if n, m := impl.CountOf(words(text)); n != -1 || m != -1 {
			t.Fatalf("%s needs %d and leaves %d", text, n, m)
		}
	}
}

// Promise 9.
func TestCountingIsEnough(t *testing.T) {
	r := rand.New(rand.NewSource(26))
	list := rowsOf(words("1 dup drop swap <"), 5)
	for range 1000 {
		list = append(list, drawnCounted(r, 60))
	}
	long := 0
	for _, p := range list {
		n, m := impl.CountOf(p)
		if needed, left := modelCount(p); n != needed || m != left {
			t.Fatalf("%s needs %d and leaves %d, not %d and %d", written(p), n, m, needed, left)
		}
		e, ok := impl.EffectOf(p)
		if !ok {
			long++
			continue
		}
		if needed, left := impl.NeedsOf(e); n != needed || m != left {
			t.Fatalf("%s needs %d and leaves %d, its effect %d and %d", written(p), n, m, needed, left)
		}
	}
	if long > 100 {
		t.Fatalf("%d of %d have no effect", long, len(list))
	}
}

func TestStage4ArgumentsAreKept(t *testing.T) {
	r := rand.New(rand.NewSource(27))
	for _, p := range slices.Concat(programs(), badPrograms(), typed()) {
		for _, s := range [][][]int{drawnStack(r, 6), full(21), {{1, 2}}} {
			kept(t, p, func(p []int) {
				keptStack(t, s, func(s [][]int) {
					e, _ := impl.EffectOf(p)
					spoil(e.In)
					spoil(e.Out)
					impl.StopOf(p, s)
					impl.SafeOn(p, s)
					impl.CountOf(p)
				})
			})
		}
	}
}

func TestStage4ResultsShareNothing(t *testing.T) {
	check := func(name string, call func() (impl.Effect, bool)) {
		first, ok := call()
		if !ok {
			t.Fatal(name)
		}
		second, _ := call()
		in, out := slices.Clone(first.In), slices.Clone(first.Out)
		spoil(first.In)
		spoil(second.Out)
		if !same(first.Out, out) || !same(second.In, in) {
			t.Fatalf("In and Out of %s share memory", name)
		}
		spoil(first.Out)
		spoil(second.In)
		if third, ok := call(); !ok || !same(third.In, in) || !same(third.Out, out) {
			t.Fatalf("%s, and once more %v", name, third)
		}
	}
	for w := range impl.OpOpen {
		if _, isOp := wordTexts[w]; w < 3 || isOp {
			check(written([]int{w}), func() (impl.Effect, bool) { return impl.WordEffect(w) })
		}
	}
	for _, p := range typed() {
		check(written(p), func() (impl.Effect, bool) { return impl.EffectOf(p) })
	}
}
