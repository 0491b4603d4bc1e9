package tests

import (
	"math/rand"
	"slices"
	"strconv"
	"strings"
	"testing"

	"loop.example/stackwords/impl"
)

// noEnd is a program that never ends.
const noEnd = "[ dup call ] dup call"

// trimmed returns the text of so many times the same words, as a program has it.
func trimmed(times int, text string) string {
	return strings.TrimSuffix(repeated(times, text), " ")
}

// pastOf writes a bench of so many stacks of before, 1, 2, and so on, of this stack.
func pastOf(many int, now string) string {
	text := ""
	for i := range many {
		text += strconv.Itoa(i+1) + " | "
	}
	return text + now
}

// goodBenches returns valid benches, those at the bounds among them.
func goodBenches() []impl.Bench {
	list := []impl.Bench{{}, {Now: []int{}, Past: []string{}}}
	for _, text := range []string{
		"--", "1", "999 0", "[ dup ]", "1 [ [ ] + ] 3", "-- | 1", "1 | --", "1 | 1", "-- | --", "1 | 2 | 3", "[ [ dup * ] dip ] 3 | 9", "-- | -- | 1 | -- | --",
		trimmed(20, "5"), trimmed(20, "[ ]"), trimmed(20, "[ 1 ]"), "[ " + repeated(58, "dup") + "]", "[ " + repeated(57, "dup") + "] 1", strings.Repeat("[ ", 30) + trimmed(30, "]"), trimmed(19, "[ ]") + " [ " + repeated(20, "1") + "]",
		trimmed(20, "5") + " | 1", trimmed(20, "[ 1 ]") + " | " + trimmed(20, "[ 1 ]"), "[ " + repeated(58, "dup") + "] | --",
		pastOf(19, "7"), pastOf(20, "7"), pastOf(20, "--"), pastOf(20, trimmed(20, "[ 1 ]")), repeated(20, trimmed(20, "5")+" |") + "3", repeated(20, "-- |") + "--",
	} {
		list = append(list, bench(text))
	}
	r := rand.New(rand.NewSource(81))
	for range 200 {
		list = append(list, drawnBench(r))
	}
	return list
}

// badStackLines returns texts that are not those of a stack.
func badStackLines() []string {
	return []string{
		"", " ", "1 ", " 1", "1  2", "1\n", "\n", "-- ", "--\n", "01", "-1", "1000", "x", "[", "]", "[ 1", "[1]", "1 --", "\x00", "\xff", "1,2", "do 1", "clear",
		"dup", "1 dup", "[ ] call", "1 2 +", "drop", "1 swap 2", "times", trimmed(21, "5"), trimmed(21, "[ ]"), trimmed(60, "5"), trimmed(61, "5"), trimmed(21, "[ 1 ]"), "[ " + repeated(59, "1") + "]", strings.Repeat("[ ", 31) + trimmed(31, "]"),
	}
}

// badBenches returns benches that are not valid, each for one reason.
func badBenches() []impl.Bench {
	var list []impl.Bench
	for _, line := range badStackLines() {
		for _, b := range []impl.Bench{{Past: []string{line}}, {Now: []int{3}, Past: []string{line, "1", "--"}}, {Now: []int{3}, Past: []string{"1", line, "--"}}, {Past: append(slices.Repeat([]string{"1"}, 19), line)}, {Past: append([]string{line}, slices.Repeat([]string{"1"}, 19)...)}} {
			list = append(list, b)
		}
	}
	for _, p := range append(badPrograms(), words("dup"), words("1 dup"), words("[ ] call"), words("1 2 +"), words("1 drop 2"), words("["), row(5, 21), row(5, 60), row(5, 61), words(repeated(21, "[ ]")), words(repeated(21, "[ 1 ]")), quoted(row(1, 59))) {
		list = append(list, impl.Bench{Now: p}, impl.Bench{Now: p, Past: []string{"1"}}, impl.Bench{Now: p, Past: slices.Repeat([]string{"--"}, 20)})
	}
	for _, many := range []int{21, 22, 40, 100} {
		list = append(list, bench(pastOf(many, "7")), bench(pastOf(many, "--")), impl.Bench{Past: slices.Repeat([]string{"--"}, many)})
	}
	return list
}

func TestBenchesThatAreValid(t *testing.T) {
	for _, b := range goodBenches() {
		if !impl.BenchValid(b) || !modelBenchValid(b) {
			t.Fatalf("%s is not valid", benchText(b))
		}
	}
}

func TestBenchesThatAreNone(t *testing.T) {
	for _, b := range badBenches() {
		if impl.BenchValid(b) || modelBenchValid(b) {
			t.Fatalf("%s is valid", benchText(b))
		}
		for _, d := range []impl.Deed{{Text: "1"}, {Text: "--"}, {Text: "drop"}, {}, {Kind: 1}, {Kind: 2}, {Kind: 3}, {Kind: 1, Text: "1"}} {
			if x, ok := impl.BenchDo(b, d); ok || !noBench(x) {
				t.Fatalf("%s becomes %s by %v", benchText(b), benchText(x), d)
			}
			for _, list := range [][]impl.Deed{nil, {d}, {d, {Kind: 2}}, {{Kind: 1}, d, {Text: "7"}}} {
				if x, n := impl.BenchRun(b, list); n != 0 || !noBench(x) {
					t.Fatalf("%s becomes %s by %v", benchText(b), benchText(x), list)
				}
			}
		}
		for _, line := range []string{"do 1", "clear", "back", "now", "values", "past", "effect 1", "simple 1", "steps 1", "regs 1", "safe 1", "", " ", "what"} {
			if x, answer := impl.BenchLine(b, line); answer != "" || !noBench(x) {
				t.Fatalf("%s becomes %s by %q: %q", benchText(b), benchText(x), line, answer)
			}
			for _, lines := range [][]string{nil, {line}, {"clear", line, "do 7"}} {
				if x, answers := impl.BenchSay(b, lines); answers != nil || !noBench(x) {
					t.Fatalf("%s becomes %s by %q: %q", benchText(b), benchText(x), lines, answers)
				}
			}
		}
	}
}

func TestSmallBenches(t *testing.T) {
	seen := map[bool]int{}
	for _, p := range rowsOf(words("7 dup [ ]"), 5) {
		for _, past := range [][]string{nil, {"7"}, {strings.TrimSpace(written(p))}, {"--", lineOf(p)}} {
			b := impl.Bench{Now: []int{1}, Past: past}
			c := impl.Bench{Now: p, Past: past}
			for _, b := range []impl.Bench{b, c} {
				want := modelBenchValid(b)
				if seen[want]++; impl.BenchValid(b) != want {
					t.Fatalf("%s is valid: %v", benchText(b), !want)
				}
			}
		}
	}
	if seen[true] < 200 || seen[false] < 1000 {
		t.Fatalf("too few: %v", seen)
	}
}

// Promise 63.
func TestBenchesCanForget(t *testing.T) {
	if !impl.BenchValid(impl.Bench{}) || !impl.BenchValid(impl.BenchNew(nil)) || !impl.BenchValid(impl.BenchNew([][]int{})) {
		t.Fatal("the one of the empty stack is not valid")
	}
	for _, b := range goodBenches() {
		for many := range len(b.Past) + 1 {
			for _, past := range [][]string{b.Past[:many], b.Past[many:]} {
				if !impl.BenchValid(impl.Bench{Now: b.Now, Past: past}) {
					t.Fatalf("%s with %d stacks of before is not valid", benchText(b), len(past))
				}
			}
		}
	}
}

// Promise 64.
func TestNewBenches(t *testing.T) {
	long, short := 0, 0
	for _, s := range goodStacks() {
		b := impl.BenchNew(s)
		p := slices.Concat(s...)
		if len(p) > 60 {
			long++
			if !noBench(b) {
				t.Fatalf("the bench of %q: %s", stackTexts(s), benchText(b))
			}
			continue
		}
		short++
		now, ok := impl.ProgStack(b.Now)
		if !same(b.Now, p) || len(b.Past) > 0 || !impl.BenchValid(b) || !ok || !sameStack(now, s) {
			t.Fatalf("the bench of %q: %s", stackTexts(s), benchText(b))
		}
	}
	for _, s := range badStacks() {
		if b := impl.BenchNew(s); !noBench(b) {
			t.Fatalf("the bench of %v: %s", s, benchText(b))
		}
	}
	if long < 10 || short < 100 {
		t.Fatalf("long %d, short %d", long, short)
	}
}

func TestNewBenchesAtTheBounds(t *testing.T) {
	for _, x := range []struct {
		s    [][]int
		want int
	}{
		{nil, 0}, {full(20), 20}, {full(21), 0}, {slices.Repeat(values("[ 1 ]"), 20), 60}, {append(slices.Repeat(values("[ 1 ]"), 19), words("[ 1 2 ]")), 0}, {[][]int{quoted(row(5, 58))}, 60}, {[][]int{quoted(row(5, 58)), {1}}, 0}, {[][]int{{1}, quoted(row(5, 57))}, 60}, {[][]int{{1}, {2}, quoted(row(5, 57))}, 0}, {[][]int{quoted(row(5, 59))}, 0},
		{[][]int{nest(30)}, 60}, {[][]int{nest(15), nest(15)}, 60}, {[][]int{nest(15), nest(15), {1}}, 0}, {[][]int{{1}, {impl.OpDup}}, 0}, {[][]int{{}}, 0}, {[][]int{{1, 2}}, 0}, {[][]int{{1}, nil}, 0},
	} {
		if b := impl.BenchNew(x.s); len(b.Now) != x.want || len(b.Past) > 0 {
			t.Fatalf("the bench of %v: %s", x.s, benchText(b))
		}
	}
}

func TestDeedsOfText(t *testing.T) {
	sixty := "[ " + repeated(58, "dup") + "]"
	for _, x := range []struct{ from, text, want string }{
		{"--", "3", "-- | 3"}, {"3", "dup *", "3 | 9"}, {"3 | 9", "1 +", "3 | 9 | 10"}, {"3 4", "[ dup * ] dip", "3 4 | 9 4"}, {"1", "drop", "1 | --"}, {"1 2", "swap", "1 2 | 2 1"}, {"5", "[ dup ]", "5 | 5 [ dup ]"}, {"5 [ dup ]", "call", "5 [ dup ] | 5 5"}, {"2 [ [ ] ]", "dup", "2 [ [ ] ] | 2 [ [ ] ] [ [ ] ]"},
		{"--", "[ 1 ] 0 [ 2 ] times", "-- | [ 1 ]"}, {"[ 1 ]", "call", "[ 1 ] | 1"}, {"1 | 1", "drop", "1 | 1 | --"}, {"1 | 2", "1 swap drop", "1 | 2 | 1"}, {"-- | 1", "drop", "-- | 1 | --"}, {"999", "1 +", "999 | 0"}, {"0", "1 -", "0 | 999"},
		// As much as fits on a stack, in a program and in MaxFuel steps.
		{trimmed(19, "5"), "6", trimmed(19, "5") + " | " + repeated(19, "5") + "6"}, {trimmed(20, "5"), "drop", trimmed(20, "5") + " | " + trimmed(19, "5")}, {"[ " + repeated(28, "1") + "]", "dup", "[ " + repeated(28, "1") + "] | [ " + repeated(28, "1") + "] [ " + repeated(28, "1") + "]"}, {"--", sixty, "-- | " + sixty}, {trimmed(20, "[ 1 ]"), "drop", trimmed(20, "[ 1 ]") + " | " + trimmed(19, "[ 1 ]")}, {"--", exactFuel, "-- | 1 1"}, {"--", trimmed(20, "5") + " " + trimmed(20, "drop 5"), "-- | " + trimmed(20, "5")},
	} {
		b, ok := impl.BenchDo(bench(x.from), impl.Deed{Text: x.text})
		if !ok || benchText(b) != x.want {
			t.Fatalf("%s becomes %s, %v, by %s, not %s", x.from, benchText(b), ok, x.text, x.want)
		}
	}
	for _, x := range []struct{ from, text string }{
		// Too few values, and others than are taken.
		{"--", "+"}, {"3", "+"}, {"--", "drop"}, {"--", "dup"}, {"1", "swap"}, {"1", "1 + +"}, {"3", "call"}, {"3 4", "dip"}, {"[ ] 1", "+"}, {"1 [ ]", "if"}, {"[ ]", "times"}, {"1 2", "times"}, {"3", "9 8 + + +"}, {"3 | 4", "+"}, {"-- | 1", "drop drop"},
		// No end, and one step too many.
		{"--", noEnd}, {"1 2 3", noEnd}, {"[ dup call ]", "dup call"}, {"--", exactFuel + " 1"}, {"1", exactFuel + " drop"},
		// The same stack as before.
		{"--", "--"}, {"3", "--"}, {"1 2", "--"}, {"3 | 4", "--"}, {"3", "dup drop"}, {"3", "drop 3"}, {"3 3", "swap"}, {"--", "1 drop"}, {"0", "1 *"}, {"[ 1 ]", "[ ] dip"}, {"[ ]", "drop [ ]"}, {"5", "1 + 1 -"}, {"-- | 1", "drop 1"}, {"1 2", "swap swap"}, {"4", "[ ] call"},
		// Too many values, too many words of a value, and of the program of the stack.
		{trimmed(20, "5"), "1"}, {trimmed(19, "5"), "1 2"}, {trimmed(19, "5"), "1 2 drop"}, {trimmed(20, "5"), "dup drop 1"}, {sixty, "1"}, {sixty, "dup"}, {"[ " + repeated(29, "1") + "]", "dup"}, {"[ " + repeated(28, "1") + "]", "dup 1"}, {trimmed(19, "[ 1 ]"), "[ 1 2 ]"}, {trimmed(20, "[ 1 ]"), "drop [ 1 2 ]"}, {"1", "[ " + repeated(58, "1") + "]"}, {"[ " + repeated(28, "1") + "]", "dup dup drop 1"},
		// No program.
		{"3", ""}, {"3", " "}, {"3", "1 "}, {"3", " 1"}, {"3", "1  2"}, {"3", "["}, {"3", "]"}, {"3", "] ["}, {"3", "01"}, {"3", "1000"}, {"3", "-1"}, {"3", "DUP"}, {"3", "do 1"}, {"3", "clear"}, {"3", "back"}, {"3", "1\n"}, {"3", "1\n2"}, {"3", "1 --"}, {"3", "\x00"}, {"3", "\xff"}, {"3", "dup * |"}, {"3", trimmed(30, "1 drop") + " 1"}, {"3", trimmed(61, "dup")}, {"--", "1" + strings.Repeat(" ", 1000)},
	} {
		for _, from := range []string{x.from, "7 | 8 | " + x.from} {
			b, ok := impl.BenchDo(bench(from), impl.Deed{Text: x.text})
			if ok || benchText(b) != from {
				t.Fatalf("%s becomes %s, %v, by %s", from, benchText(b), ok, x.text)
			}
		}
	}
}

func TestDeedsWithoutPrograms(t *testing.T) {
	for _, x := range []struct {
		from string
		kind int
		want string
	}{
		{"1", impl.BnClear, "1 | --"}, {"1 2 [ dup ]", impl.BnClear, "1 2 [ dup ] | --"}, {"-- | 1", impl.BnClear, "-- | 1 | --"}, {"0", impl.BnClear, "0 | --"}, {"[ ]", impl.BnClear, "[ ] | --"}, {trimmed(20, "[ 1 ]"), impl.BnClear, trimmed(20, "[ 1 ]") + " | --"},
		{"1 | 2", impl.BnBack, "1"}, {"-- | 2", impl.BnBack, "--"}, {"1 | --", impl.BnBack, "1"}, {"1 | 2 | 3", impl.BnBack, "1 | 2"}, {"1 | 1", impl.BnBack, "1"}, {"-- | --", impl.BnBack, "--"}, {"[ [ ] dup ] 3 | --", impl.BnBack, "[ [ ] dup ] 3"}, {pastOf(20, "--"), impl.BnBack, pastOf(19, "20")}, {trimmed(20, "[ 1 ]") + " | 4", impl.BnBack, trimmed(20, "[ 1 ]")},
	} {
		b, ok := impl.BenchDo(bench(x.from), impl.Deed{Kind: x.kind})
		if !ok || benchText(b) != x.want {
			t.Fatalf("%s becomes %s, %v, by %d, not %s", x.from, benchText(b), ok, x.kind, x.want)
		}
		for _, text := range []string{"1", "--", " ", "drop", "clear", "back", "\x00", "["} {
			if b, ok := impl.BenchDo(bench(x.from), impl.Deed{Kind: x.kind, Text: text}); ok || benchText(b) != x.from {
				t.Fatalf("%s becomes %s, %v, by %d with %q", x.from, benchText(b), ok, x.kind, text)
			}
		}
		for _, kind := range []int{-1, 3, 4, 1000, maxInt, -maxInt - 1} {
			for _, text := range []string{"", "1", "--", "drop", "x"} {
				if b, ok := impl.BenchDo(bench(x.from), impl.Deed{Kind: kind, Text: text}); ok || benchText(b) != x.from {
					t.Fatalf("%s becomes %s, %v, by %d with %q", x.from, benchText(b), ok, kind, text)
				}
			}
		}
	}
	for _, x := range []struct {
		from string
		kind int
	}{
		{"--", impl.BnClear}, {"1 | --", impl.BnClear}, {pastOf(20, "--"), impl.BnClear}, {"--", impl.BnBack}, {"1", impl.BnBack}, {"1 2 [ dup ]", impl.BnBack},
	} {
		if b, ok := impl.BenchDo(bench(x.from), impl.Deed{Kind: x.kind}); ok || benchText(b) != x.from {
			t.Fatalf("%s becomes %s, %v, by %d", x.from, benchText(b), ok, x.kind)
		}
	}
}

func TestFullPasts(t *testing.T) {
	for many := range impl.MaxPast + 1 {
		from := bench(pastOf(many, "70"))
		for _, x := range []struct {
			d    impl.Deed
			want string
		}{{impl.Deed{Text: "1 +"}, "71"}, {impl.Deed{Kind: 1}, "--"}} {
			b, ok := impl.BenchDo(from, x.d)
			want := slices.Concat(from.Past, []string{"70", x.want})
			if many == impl.MaxPast {
				want = want[1:]
			}
			if !ok || !slices.Equal(linesOf(b), want) || !impl.BenchValid(b) {
				t.Fatalf("%s becomes %s, %v, by %v", benchText(from), benchText(b), ok, x.d)
			}
			back, ok := impl.BenchDo(b, impl.Deed{Kind: 2})
			if !ok || !slices.Equal(linesOf(back), want[:len(want)-1]) {
				t.Fatalf("%s becomes %s, %v, by back", benchText(b), benchText(back), ok)
			}
		}
		// What cannot be done does not make room.
		for _, d := range []impl.Deed{{Text: "+"}, {Text: "--"}, {Text: "dup drop"}, {Text: noEnd}, {Text: "1 "}, {Kind: 1, Text: "1"}, {Kind: 3}} {
			if b, ok := impl.BenchDo(from, d); ok || !sameBench(b, from) {
				t.Fatalf("%s becomes %s by %v", benchText(from), benchText(b), d)
			}
		}
	}
	// More deeds than there is room for, and all that is left put back.
	b := impl.BenchNew(nil)
	for n := range 50 {
		b, _ = impl.BenchDo(b, impl.Deed{Text: "drop " + strconv.Itoa(n)})
		if n == 0 {
			b, _ = impl.BenchDo(b, impl.Deed{Text: "0"})
		}
	}
	for n := 48; n >= 29; n-- {
		var ok bool
		if b, ok = impl.BenchDo(b, impl.Deed{Kind: 2}); !ok || !same(b.Now, []int{n}) || len(b.Past) != n-29 {
			t.Fatalf("%d: %s", n, benchText(b))
		}
	}
	if _, ok := impl.BenchDo(b, impl.Deed{Kind: 2}); ok {
		t.Fatal("more was put back than there was room for")
	}
}

// Promise 27.
func TestWhatWasDoneCanBeUndone(t *testing.T) {
	r := rand.New(rand.NewSource(82))
	seen := map[string]int{}
	for i := range 6000 {
		b := drawnBench(r)
		d := deedIn(drawnDeedLine(r, lineOf(b.Now)))
		if i%6 == 0 {
			d = otherDeed(r)
		}
		lines, wantOk := modelDeed(linesOf(b), lineOfDeed(d))
		after, ok := impl.BenchDo(b, d)
		if ok != wantOk || !slices.Equal(linesOf(after), lines) || !impl.BenchValid(after) {
			t.Fatalf("%s becomes %s, %v, by %v, not %s", benchText(b), benchText(after), ok, d, strings.Join(lines, " | "))
		}
		switch {
		case !ok:
			seen["no"]++
			if !sameBench(after, b) {
				t.Fatalf("%s becomes %s by %v, which cannot be done", benchText(b), benchText(after), d)
			}
			continue
		case d.Kind == impl.BnBack:
			seen["back"]++
			continue
		case d.Kind == impl.BnDo:
			seen["do"]++
			p, _ := impl.ReadProg(d.Text)
			s, _ := impl.ProgStack(b.Now)
			left, _, told := impl.RunOf(p, s)
			if now, _ := impl.StackProg(left); !told || !same(after.Now, now) {
				t.Fatalf("%s becomes %s by %s", benchText(b), benchText(after), d.Text)
			}
		case len(after.Now) > 0:
			t.Fatalf("%s becomes %s by clear", benchText(b), benchText(after))
		}
		want := b
		if len(b.Past) == impl.MaxPast {
			seen["full"]++
			want.Past = b.Past[1:]
		}
		if back, ok := impl.BenchDo(after, impl.Deed{Kind: impl.BnBack}); !ok || !sameBench(back, want) {
			t.Fatalf("%s, %s, and back: %s", benchText(b), d.Text, benchText(back))
		}
	}
	if seen["no"] < 1000 || seen["back"] < 500 || seen["do"] < 1500 || seen["full"] < 300 {
		t.Fatalf("too few: %v", seen)
	}
}

func TestRunsOfText(t *testing.T) {
	one := impl.Deed{Text: "1 +"}
	for _, x := range []struct {
		from string
		list []impl.Deed
		want string
		many int
	}{
		{"--", nil, "--", 0}, {"1 | 2", nil, "1 | 2", 0}, {"1 | 2", []impl.Deed{}, "1 | 2", 0}, {"3", []impl.Deed{one}, "3 | 4", 1}, {"3", []impl.Deed{one, one}, "3 | 4 | 5", 2},
		// Deeds that cannot be done between others.
		{"3", []impl.Deed{one, {Text: "+"}, one}, "3 | 4 | 5", 2}, {"3", []impl.Deed{{Text: "+"}, one, {Kind: 7}, {Text: noEnd}, {Kind: 1}, {Kind: 1}, {Kind: 2}, {Text: "1 "}}, "3 | 4", 3}, {"3", []impl.Deed{{Kind: 2}, {Kind: 2}, one}, "3 | 4", 1}, {"3", []impl.Deed{{Text: "+"}, {Kind: 2}, {Kind: -1}, {Kind: 1, Text: "1"}, {}}, "3", 0}, {"1 | 3", []impl.Deed{{Kind: 2}, {Kind: 2}, {Kind: 2}}, "1", 1}, {"--", []impl.Deed{{Kind: 1}, {Text: "4"}, {Kind: 1}, {Kind: 1}}, "-- | 4 | --", 2},
	} {
		b, many := impl.BenchRun(bench(x.from), x.list)
		if many != x.many || benchText(b) != x.want {
			t.Fatalf("%s becomes %s by %d of %v, not %s", x.from, benchText(b), many, x.list, x.want)
		}
	}
	for _, x := range []struct {
		many, want, past, now int
	}{{39, 39, 20, 42}, {40, 40, 20, 43}} {
		b, many := impl.BenchRun(bench("3"), slices.Repeat([]impl.Deed{one}, x.many))
		if many != x.want || len(b.Past) != x.past || !same(b.Now, []int{x.now}) {
			t.Fatalf("%d deeds: %s, %d", x.many, benchText(b), many)
		}
	}
	for _, many := range []int{41, 42, 1000} {
		for _, d := range []impl.Deed{one, {}, {Kind: 3}, {Text: "--"}} {
			if b, n := impl.BenchRun(bench("3"), slices.Repeat([]impl.Deed{d}, many)); n != 0 || !noBench(b) {
				t.Fatalf("%d deeds: %s, %d", many, benchText(b), n)
			}
		}
	}
	if b, n := impl.BenchRun(bench("3"), slices.Repeat([]impl.Deed{{Kind: 3}}, 40)); n != 0 || benchText(b) != "3" {
		t.Fatalf("40 deeds that cannot be done: %s, %d", benchText(b), n)
	}
}

// Promise 28.
func TestWhateverIsDoneTheBenchIsValid(t *testing.T) {
	r := rand.New(rand.NewSource(83))
	done, left := 0, 0
	for i := range 300 {
		b := drawnBench(r)
		list := drawnDeeds(r, b, []int{impl.MaxLines, impl.MaxLines - 1, r.Intn(impl.MaxLines)}[i%3])
		want, wantMany := modelDeeds(b, list)
		after, many := impl.BenchRun(b, list)
		if many != wantMany || !sameBench(after, want) || !impl.BenchValid(after) {
			t.Fatalf("%s becomes %s by %d of %v, not %s by %d", benchText(b), benchText(after), many, list, benchText(want), wantMany)
		}
		done += many
		left += len(list) - many
		for cut := range len(list) + 1 {
			first, before := impl.BenchRun(b, list[:cut])
			second, behind := impl.BenchRun(first, list[cut:])
			if before+behind != many || !sameBench(second, after) || !impl.BenchValid(first) {
				t.Fatalf("%s becomes %s by %v in two parts, the first of %d, not %s", benchText(b), benchText(second), list, cut, benchText(after))
			}
		}
	}
	if done < 4000 || left < 1000 {
		t.Fatalf("done %d, left out %d", done, left)
	}
}

func TestTextsOfDeeds(t *testing.T) {
	for _, x := range []struct {
		d    impl.Deed
		want string
	}{
		{impl.Deed{Text: "1"}, "do 1"}, {impl.Deed{Text: "dup *"}, "do dup *"}, {impl.Deed{Text: "--"}, "do --"}, {impl.Deed{Text: "[ [ ] dup ] dip"}, "do [ [ ] dup ] dip"}, {impl.Deed{Text: "+"}, "do +"}, {impl.Deed{Text: noEnd}, "do " + noEnd}, {impl.Deed{Text: trimmed(60, "dup")}, "do " + trimmed(60, "dup")},
		{impl.Deed{Kind: 1}, "clear"}, {impl.Deed{Kind: 2}, "back"},
		// Texts that are no programs.
		{impl.Deed{}, ""}, {impl.Deed{Text: " "}, ""}, {impl.Deed{Text: "1 "}, ""}, {impl.Deed{Text: " 1"}, ""}, {impl.Deed{Text: "1  2"}, ""}, {impl.Deed{Text: "1\n"}, ""}, {impl.Deed{Text: "\n"}, ""}, {impl.Deed{Text: "["}, ""}, {impl.Deed{Text: "]"}, ""}, {impl.Deed{Text: "01"}, ""}, {impl.Deed{Text: "1000"}, ""}, {impl.Deed{Text: "do 1"}, ""}, {impl.Deed{Text: "clear"}, ""}, {impl.Deed{Text: "back"}, ""}, {impl.Deed{Text: trimmed(61, "dup")}, ""}, {impl.Deed{Text: "-- "}, ""}, {impl.Deed{Text: "1 --"}, ""}, {impl.Deed{Text: "\xff"}, ""},
		// Texts of others, and other kinds.
		{impl.Deed{Kind: 1, Text: "1"}, ""}, {impl.Deed{Kind: 2, Text: "1"}, ""}, {impl.Deed{Kind: 1, Text: "--"}, ""}, {impl.Deed{Kind: 2, Text: " "}, ""}, {impl.Deed{Kind: 1, Text: "clear"}, ""}, {impl.Deed{Kind: 2, Text: "["}, ""},
		{impl.Deed{Kind: 3}, ""}, {impl.Deed{Kind: -1}, ""}, {impl.Deed{Kind: 3, Text: "1"}, ""}, {impl.Deed{Kind: -1, Text: "1"}, ""}, {impl.Deed{Kind: maxInt}, ""}, {impl.Deed{Kind: -maxInt - 1, Text: "1"}, ""}, {impl.Deed{Kind: 4, Text: "--"}, ""},
	} {
		if got := impl.DeedText(x.d); got != x.want {
			t.Fatalf("the text of %v is %q, not %q", x.d, got, x.want)
		}
	}
}

// Promise 65.
func TestTextsOfDeedsAreRead(t *testing.T) {
	list := []impl.Deed{{Kind: 1}, {Kind: 2}}
	for _, p := range programs() {
		list = append(list, impl.Deed{Text: impl.ProgText(p)})
	}
	r := rand.New(rand.NewSource(84))
	for range 500 {
		list = append(list, otherDeed(r), deedIn(drawnDeedLine(r, "1 2")))
	}
	told, none := 0, 0
	for _, d := range list {
		text := impl.DeedText(d)
		if text != lineOfDeed(d) {
			t.Fatalf("the text of %v is %q, not %q", d, text, lineOfDeed(d))
		}
		if text == "" {
			none++
			continue
		}
		told++
		if got, ok := impl.ReadDeed(text); !ok || got != d {
			t.Fatalf("%q is read as %v, %v, not %v", text, got, ok, d)
		}
	}
	if told < 500 || none < 300 {
		t.Fatalf("told %d, none %d", told, none)
	}
}

// Promise 66.
func TestReadDeedsAreCanonical(t *testing.T) {
	texts := textsOf([]string{"do", " ", "1", "clear", "back", "\n", "--", "[", "]"}, 5)
	texts = append(texts, "do dup *", "do  1", "do 1 ", " do 1", "do 1\n", "do\t1", "do\n1", "do1", "Do 1", "DO 1", "do 01", "do 1000", "do -1", "do -- --", "do 1 --", "d o 1", "doo 1", "do do 1", "Clear", "clears", "clea", "clear --", "clear 1", "clear\x00", "bac", "backs", "back 1", "back\r", "undo", "1", "--", "now", "\x00", "\xff", "do \xff", "do "+trimmed(60, "dup"), "do "+trimmed(61, "dup"), strings.Repeat("do ", 1000), strings.Repeat(" ", 1000))
	for _, p := range programs() {
		text := "do " + lineOf(p)
		texts = append(texts, text, text+" ", text+"\n", " "+text, "do "+text, text+" ]", text+"\r", text+text, text[:len(text)-1])
	}
	read := 0
	for _, text := range texts {
		d, ok := impl.ReadDeed(text)
		if ok != isDeedLine(text) || !ok && d != (impl.Deed{}) {
			t.Fatalf("%q is read as %v, %v", text, d, ok)
		}
		if !ok {
			continue
		}
		read++
		if d != deedIn(text) || impl.DeedText(d) != text {
			t.Fatalf("%q is read as %v, the deed of %q", text, d, impl.DeedText(d))
		}
		if d, ok := impl.ReadDeed(text + " "); ok || d != (impl.Deed{}) {
			t.Fatalf("%q with a space behind it is read as %v", text, d)
		}
	}
	if read < 200 {
		t.Fatalf("only %d are read", read)
	}
}

func TestTextsOfJournals(t *testing.T) {
	for _, x := range []struct {
		list []impl.Deed
		want string
	}{
		{nil, ""}, {[]impl.Deed{}, ""}, {[]impl.Deed{{Text: "1"}}, "do 1\n"}, {[]impl.Deed{{Kind: 1}, {Kind: 2}}, "clear\nback\n"}, {[]impl.Deed{{Text: "3 4"}, {Kind: 1}, {Text: "--"}}, "do 3 4\nclear\ndo --\n"}, {slices.Repeat([]impl.Deed{{Kind: 2}}, 500), strings.Repeat("back\n", 500)},
		// One deed without a text among others.
		{[]impl.Deed{{}}, ""}, {[]impl.Deed{{Kind: 3}}, ""}, {[]impl.Deed{{Text: "1"}, {}}, ""}, {[]impl.Deed{{}, {Text: "1"}}, ""}, {[]impl.Deed{{Text: "1"}, {Text: "1 "}, {Kind: 1}}, ""}, {[]impl.Deed{{Kind: 1}, {Kind: 2, Text: "1"}, {Kind: 1}}, ""}, {[]impl.Deed{{Kind: 1}, {Kind: 2}, {Kind: -1}}, ""}, {append(slices.Repeat([]impl.Deed{{Kind: 2}}, 500), impl.Deed{Text: "1\n"}), ""},
	} {
		if got := impl.JournalText(x.list); got != x.want {
			t.Fatalf("the text of %v is %q, not %q", x.list, got, x.want)
		}
	}
}

func TestJournalsOfText(t *testing.T) {
	for _, x := range []struct {
		text       string
		many, read int
	}{
		{"", 0, 0}, {"do 1\n", 1, 5}, {"clear\nback\n", 2, 11}, {"do 3 4\nclear\nback", 2, 13}, {"do 3 4\nclear\nback\n", 3, 18}, {"do --\n", 1, 6},
		// A last line without a newline, one that is no deed, and one that is cut.
		{"do 1", 0, 0}, {"clear", 0, 0}, {"back\ndo", 1, 5}, {"back\ndo ", 1, 5}, {"back\ndo 1 ", 1, 5}, {"back\nx", 1, 5},
		// An empty line.
		{"\n", 0, 0}, {"\nback\n", 0, 0}, {"back\n\n", 1, 5}, {"back\n\nback\n", 1, 5}, {"\n\n\n", 0, 0},
		// A line that is no deed ahead of one that is.
		{"x\nback\n", 0, 0}, {"back\nx\nback\n", 1, 5}, {"back\ndo\nback\n", 1, 5}, {"back\ndo \nback\n", 1, 5}, {"back\n back\nback\n", 1, 5}, {"back \nback\n", 0, 0}, {"do 1 \nback\n", 0, 0}, {"do [\nback\n", 0, 0}, {"do [\n]\n", 0, 0}, {"now\nback\n", 0, 0}, {"do 1\neffect 1\ndo 2\n", 1, 5},
		{"back\r\nback\n", 0, 0}, {"back\n\xff\n", 1, 5}, {"\x00back\n", 0, 0}, {"back\x00\n", 0, 0},
		{strings.Repeat("back\n", 500), 500, 2500}, {strings.Repeat("do 1\n", 41) + "do 1", 41, 205}, {strings.Repeat("back", 500) + "\n", 0, 0}, {"do " + trimmed(60, "1") + "\nback\n", 2, 128}, {"do " + trimmed(61, "1") + "\nback\n", 0, 0},
	} {
		list, read := impl.ReadJournal(x.text)
		if len(list) != x.many || read != x.read || !slices.Equal(list, deedsIn(modelJournal(x.text))) {
			t.Fatalf("of %q are read %v, %d bytes, not %d of %d bytes", x.text, list, read, x.many, x.read)
		}
	}
	for _, text := range textsOf([]string{"do 1", "clear", "back", "\n", " ", "x", "do "}, 5) {
		list, read := impl.ReadJournal(text)
		want := modelJournal(text)
		if bytes := len(strings.Join(want, "")) + len(want); read != bytes || !slices.Equal(list, deedsIn(want)) {
			t.Fatalf("of %q are read %v, %d bytes, not %q", text, list, read, want)
		}
	}
}

// Promise 67.
func TestJournalsAreRead(t *testing.T) {
	r := rand.New(rand.NewSource(85))
	told, none := 0, 0
	for range 1000 {
		list := drawnDeeds(r, drawnBench(r), r.Intn(12))
		lines := ""
		all := true
		for _, d := range list {
			lines += lineOfDeed(d) + "\n"
			all = all && lineOfDeed(d) != ""
		}
		if !all {
			lines = ""
			none++
		}
		text := impl.JournalText(list)
		if text != lines {
			t.Fatalf("the text of %v is %q, not %q", list, text, lines)
		}
		if text == "" {
			continue
		}
		told++
		if got, read := impl.ReadJournal(text); read != len(text) || !slices.Equal(got, list) {
			t.Fatalf("of %q are read %v, %d bytes", text, got, read)
		}
	}
	if told < 300 || none < 300 {
		t.Fatalf("told %d, none %d", told, none)
	}
}

// Promise 29.
func TestWhereverAJournalIsCut(t *testing.T) {
	r := rand.New(rand.NewSource(86))
	cuts, said := 0, 0
	for i := range 60 {
		b := drawnBench(r)
		var list []impl.Deed
		for _, d := range drawnDeeds(r, b, []int{impl.MaxLines + 3, r.Intn(10), r.Intn(impl.MaxLines + 1)}[i%3]) {
			if lineOfDeed(d) != "" {
				list = append(list, d)
			}
		}
		text := impl.JournalText(list)
		ended := 0
		for cut := range len(text) + 1 {
			begin := text[:cut]
			got, read := impl.ReadJournal(begin)
			many := strings.Count(begin, "\n")
			if !slices.Equal(got, list[:many]) || read != strings.LastIndexByte(begin, '\n')+1 || impl.JournalText(got) != begin[:read] {
				t.Fatalf("of %q are read %v, %d bytes", begin, got, read)
			}
			cuts++
			if cut > 0 && many == ended || many > impl.MaxLines {
				continue
			}
			ended = many
			said++
			want, _ := impl.BenchRun(b, got)
			model, _ := modelDeeds(b, list[:many])
			after, answers := impl.BenchSay(b, strings.Split(begin[:read], "\n")[:many])
			if !sameBench(after, want) || !sameBench(after, model) || len(answers) != many {
				t.Fatalf("%s becomes %s by %q, line by line, not %s", benchText(b), benchText(after), begin[:read], benchText(want))
			}
		}
	}
	if cuts < 5000 || said < 600 {
		t.Fatalf("cuts %d, said %d", cuts, said)
	}
}

func TestDialogueOfTheExamples(t *testing.T) {
	dialogue := [][2]string{
		{"do 3 4", "ok"}, {"effect +", "r0 n n -> r0 n"}, {"safe +", "yes"}, {"safe * *", "no"}, {"do [ dup * ] dip", "ok"}, {"now", "9 4"}, {"do +", "ok"}, {"steps dup *", "2"}, {"simple 1 2 + [ dup ] call", "3 3"}, {"regs dup * swap dup * +", "3"}, {"do *", "no"}, {"back", "ok"}, {"now", "9 4"}, {"clear", "ok"}, {"now", "--"}, {"effect [ dup call ] dup call", "none"}, {"do [ 1 ] 0 [ 2 ] times", "ok"}, {"do call", "ok"}, {"now", "1"},
	}
	b := impl.BenchNew(nil)
	var lines, want []string
	for _, x := range dialogue {
		var answer string
		if b, answer = impl.BenchLine(b, x[0]); answer != x[1] {
			t.Fatalf("%s is answered by %s, not %s", x[0], answer, x[1])
		}
		lines, want = append(lines, x[0]), append(want, x[1])
	}
	after, answers := impl.BenchSay(impl.BenchNew(nil), lines)
	if !slices.Equal(answers, want) || !sameBench(after, b) || benchText(b) != "-- | 3 4 | 9 4 | -- | [ 1 ] | 1" {
		t.Fatalf("%q: %s", answers, benchText(after))
	}
}

func TestAnswersOfText(t *testing.T) {
	thirty := trimmed(30, "drop")
	for _, x := range []struct{ from, line, want string }{
		{"--", "now", "--"}, {"3", "now", "3"}, {"1 [ [ ] dup ] 3", "now", "1 [ [ ] dup ] 3"}, {"1 | 2 3", "now", "2 3"}, {trimmed(20, "[ 1 ]"), "now", trimmed(20, "[ 1 ]")},
		{"--", "values", "0"}, {"3", "values", "1"}, {"1 [ [ ] dup ] 3", "values", "3"}, {"1 2 3 | 4", "values", "1"}, {trimmed(20, "[ 1 ]"), "values", "20"}, {"[ 1 2 3 ]", "values", "1"},
		{"--", "past", "0"}, {"1 2 3", "past", "0"}, {"-- | 1", "past", "1"}, {pastOf(19, "4"), "past", "19"}, {pastOf(20, "4"), "past", "20"},
		{"--", "effect --", nothing}, {"1 2", "effect --", nothing}, {"--", "effect dup", "r0 t0 -> r0 t0 t0"}, {"1 2", "effect dup", "r0 t0 -> r0 t0 t0"}, {"--", "effect 7", "r0 -> r0 n"}, {"--", "effect [ + ] dip", "r0 n n t0 -> r0 n t0"}, {"--", "effect " + noEnd, "none"}, {"--", "effect 1 call", "none"}, {"--", "effect [ ] 1 +", "none"}, {"--", "effect " + trimmed(50, "drop"), "none"}, {"--", "effect " + trimmed(49, "drop"), anyTypes(49) + " -> r0"},
		{"--", "simple --", "--"}, {"--", "simple 1 drop", "--"}, {"--", "simple 1 2 +", "3"}, {"1 2", "simple +", "+"}, {"--", "simple dup", "dup"}, {"--", "simple 1 call", "1 call"}, {"--", "simple [ dup ] call", "dup"}, {"--", "simple 3 [ 2 * ] times", "2 * 2 * 2 *"}, {"--", "simple " + trimmed(60, "7"), trimmed(60, "7")}, {"--", "simple 999 [ ] times", answerSimple("", words("999 [ ] times"))},
		{"--", "steps --", "0"}, {"1", "steps --", "0"}, {"3", "steps dup *", "2"}, {"--", "steps dup *", "none"}, {"--", "steps 1", "1"}, {"1 2", "steps +", "1"}, {"1", "steps +", "none"}, {"1", "steps call", "none"}, {"--", "steps " + noEnd, "none"}, {"--", "steps " + exactFuel, "2000"}, {"--", "steps " + exactFuel + " 1", "none"}, {trimmed(20, "5"), "steps 1", "none"}, {trimmed(19, "5"), "steps 1", "1"}, {"3 | 4", "steps drop drop", "none"}, {trimmed(20, "[ 1 ]"), "steps drop [ 1 2 ]", "2"}, {"[ " + repeated(58, "1") + "]", "steps dup dup", "2"},
		{"--", "regs --", "0"}, {"--", "regs dup drop", "0"}, {"--", "regs 1 2 3", "0"}, {"--", "regs swap", "0"}, {"--", "regs +", "1"}, {"--", "regs dup * swap dup * +", "3"}, {"--", "regs dup 1 + swap 1 + *", "2"}, {"1 2", "regs -", "1"}, {"--", "regs [ ]", "none"}, {"--", "regs dip", "none"}, {"--", "regs call", "none"}, {"--", "regs if", "none"}, {"--", "regs times", "none"}, {"--", "regs 1 [ 2 + ] call", "none"}, {"--", "regs " + trimmed(60, "+"), "60"}, {"--", "regs " + trimmed(60, "1"), "0"}, {"--", "regs " + thirty + " " + trimmed(30, "dup"), "0"}, {"--", "regs " + trimmed(60, "swap"), "0"},
		{"--", "safe --", "yes"}, {"3", "safe --", "yes"}, {"3 4", "safe +", "yes"}, {"3", "safe +", "no"}, {"--", "safe +", "no"}, {"--", "safe 1", "yes"}, {"[ dup ]", "safe call", "no"}, {"1 [ dup ]", "safe call", "yes"}, {"1", "safe call", "no"}, {"3 4", "safe * *", "no"}, {"--", "safe " + noEnd, "no"}, {"--", "safe dup", "no"}, {"3 | 4", "safe +", "no"}, {trimmed(20, "5"), "safe 1", "yes"}, {"[ dup call ]", "safe --", "no"}, {"--", "safe 999 [ ] times", "yes"},
		{trimmed(20, "5"), "safe " + trimmed(20, "1 drop"), "yes"}, {trimmed(20, "5"), "safe " + trimmed(20, "1 drop") + " 1", "no"}, {"--", "safe " + trimmed(30, "1 drop"), "yes"}, {trimmed(20, "5"), "safe " + trimmed(20, "drop"), "yes"}, {trimmed(20, "5"), "safe " + trimmed(21, "drop"), "no"},
		// Questions without a program, with one that is not valid, and with a space more.
		{"3", "effect", "what"}, {"3", "effect ", "what"}, {"3", "effect  1", "what"}, {"3", "effect 1 ", "what"}, {"3", " effect 1", "what"}, {"3", "effect [", "what"}, {"3", "effect ]", "what"}, {"3", "effect 1000", "what"}, {"3", "effect 1\n", "what"}, {"3", "effect1", "what"}, {"3", "effect " + trimmed(61, "1"), "what"}, {"3", "effect\t1", "what"}, {"3", "Effect 1", "what"}, {"3", "effects 1", "what"}, {"3", "effect x", "what"}, {"3", "effect effect 1", "what"},
		{"3", "simple", "what"}, {"3", "simple ", "what"}, {"3", "simple  1", "what"}, {"3", "simple 1 ", "what"}, {"3", "simple [", "what"}, {"3", "simple 01", "what"}, {"3", "simple " + trimmed(61, "1"), "what"}, {"3", "steps", "what"}, {"3", "steps ", "what"}, {"3", "steps  1", "what"}, {"3", "steps 1 ", "what"}, {"3", "steps [", "what"}, {"3", "steps -1", "what"}, {"3", "step 1", "what"}, {"3", "steps " + trimmed(61, "1"), "what"},
		{"3", "regs", "what"}, {"3", "regs ", "what"}, {"3", "regs  1", "what"}, {"3", "regs 1 ", "what"}, {"3", "regs [", "what"}, {"3", "regs -- 1", "what"}, {"3", "regs " + trimmed(61, "1"), "what"}, {"3", "safe", "what"}, {"3", "safe ", "what"}, {"3", "safe  1", "what"}, {"3", "safe 1 ", "what"}, {"3", "safe [", "what"}, {"3", "safe now", "what"}, {"3", "safe " + trimmed(61, "1"), "what"}, {"3", "safe --", "yes"}, {"3", "safe -- ", "what"},
		{"3", "now ", "what"}, {"3", " now", "what"}, {"3", "now 1", "what"}, {"3", "now --", "what"}, {"3", "now\n", "what"}, {"3", "values ", "what"}, {"3", " values", "what"}, {"3", "values 1", "what"}, {"3", "past ", "what"}, {"3", " past", "what"}, {"3", "past 1", "what"},
		// Deeds that cannot be done, and lines that are no deeds.
		{"3", "do +", "no"}, {"3", "do --", "no"}, {"3", "do dup drop", "no"}, {"3", "do " + noEnd, "no"}, {"--", "clear", "no"}, {"--", "back", "no"}, {"3", "back", "no"}, {"--", "do drop", "no"}, {trimmed(20, "5"), "do 1", "no"}, {"3", "do", "what"}, {"3", "do ", "what"}, {"3", "do  1", "what"}, {"3", "do 1 ", "what"}, {"3", "do [", "what"}, {"3", "do 1\n", "what"}, {"3", "do x", "what"}, {"3", "do " + trimmed(61, "1"), "what"}, {"3", "clear ", "what"}, {"3", " clear", "what"}, {"3", "clear 1", "what"}, {"3", "clear --", "what"}, {"3 | 4", "back ", "what"}, {"3 | 4", " back", "what"}, {"3 | 4", "back 1", "what"}, {"3 | 4", "back\n", "what"},
		{"3", "", "what"}, {"3", " ", "what"}, {"3", "  ", "what"}, {"3", "\n", "what"}, {"3", "what", "what"}, {"3", "ok", "what"}, {"3", "1", "what"}, {"3", "--", "what"}, {"3", " 1", "what"}, {"3", " --", "what"}, {"3", "1 1", "what"}, {"3", "undo 1", "what"}, {"3", "\x00", "what"}, {"3", "\xff 1", "what"}, {"3", strings.Repeat("x", 1000), "what"}, {"3", strings.Repeat(" ", 1000), "what"},
	} {
		b, answer := impl.BenchLine(bench(x.from), x.line)
		if answer != x.want || benchText(b) != x.from {
			t.Fatalf("%q on %s is answered by %q, not %q, and leads to %s", x.line, x.from, answer, x.want, benchText(b))
		}
		if lines, want := modelSay(strings.Split(x.from, " | "), x.line); answer != want || benchText(b) != strings.Join(lines, " | ") {
			t.Fatalf("%q on %s is answered by %q, not %q", x.line, x.from, answer, want)
		}
	}
	for _, x := range []struct{ from, line, want string }{
		{"3", "do dup *", "3 | 9"}, {"3", "clear", "3 | --"}, {"3 | 4", "back", "3"}, {"--", "do [ 1 ] 0 [ 2 ] times", "-- | [ 1 ]"}, {"--", "do " + exactFuel, "-- | 1 1"}, {pastOf(20, "70"), "clear", strings.TrimPrefix(pastOf(20, "70 | --"), "1 | ")}, {pastOf(20, "70"), "back", pastOf(19, "20")}, {"1 | 1", "back", "1"},
	} {
		if b, answer := impl.BenchLine(bench(x.from), x.line); answer != "ok" || benchText(b) != x.want {
			t.Fatalf("%q on %s is answered by %q, and leads to %s", x.line, x.from, answer, benchText(b))
		}
	}
}

// Promise 68.
func TestQuestionsChangeNothing(t *testing.T) {
	r := rand.New(rand.NewSource(87))
	seen := map[string]int{}
	for range 6000 {
		b := drawnBench(r)
		line := drawnSaid(r, lineOf(b.Now))
		lines, want := modelSay(linesOf(b), line)
		after, answer := impl.BenchLine(b, line)
		if answer != want || !slices.Equal(linesOf(after), lines) || !impl.BenchValid(after) {
			t.Fatalf("%q on %s is answered by %q, not %q, and leads to %s", line, benchText(b), answer, want, benchText(after))
		}
		if answer != "ok" && !sameBench(after, b) {
			t.Fatalf("%q on %s leads to %s", line, benchText(b), benchText(after))
		}
		question, _, _ := strings.Cut(line, " ")
		seen[question+" "+answer]++
		if _, err := strconv.Atoi(answer); err == nil || question == "effect" || question == "simple" {
			seen[question]++
		}
		if next, answer := impl.BenchLine(after, " "); answer != "what" || !sameBench(next, after) {
			t.Fatalf("a space on %s is answered by %q, and leads to %s", benchText(after), answer, benchText(next))
		}
		_, now := impl.BenchLine(after, "now")
		if p, ok := impl.ReadProg(now); !ok || !same(p, after.Now) {
			t.Fatalf("now on %s is answered by %q", benchText(after), now)
		}
	}
	for key, least := range map[string]int{"do ok": 300, "do no": 50, "clear ok": 100, "clear no": 10, "back ok": 200, "back no": 30, "values": 150, "past": 150, "effect": 300, "effect none": 30, "simple": 300, "steps": 200, "steps none": 50, "regs": 100, "regs none": 100, "safe yes": 100, "safe no": 100, "do what": 30} {
		if seen[key] < least {
			t.Fatalf("too few %s: %v", key, seen)
		}
	}
}

func TestSaysOfText(t *testing.T) {
	for _, x := range []struct {
		from  string
		lines []string
		want  string
		said  []string
	}{
		{"--", nil, "--", nil}, {"1 | 2", []string{}, "1 | 2", nil}, {"3", []string{"now"}, "3", []string{"3"}}, {"3", []string{"do dup *", "now", "back", "back", "now", "", "past"}, "3", []string{"ok", "9", "ok", "no", "3", "what", "0"}}, {"3", []string{"do +", "do 1", "do +", "values"}, "3 | 3 1 | 4", []string{"no", "ok", "ok", "1"}}, {"--", []string{"safe +", "do 1 2", "safe +", "steps +", "do +", "safe +", "steps +"}, "-- | 1 2 | 3", []string{"no", "ok", "yes", "1", "ok", "no", "none"}},
	} {
		b, said := impl.BenchSay(bench(x.from), x.lines)
		if benchText(b) != x.want || !slices.Equal(said, x.said) {
			t.Fatalf("%q on %s is answered by %q, and leads to %s", x.lines, x.from, said, benchText(b))
		}
	}
	for _, many := range []int{39, 40} {
		b, said := impl.BenchSay(bench("3"), slices.Repeat([]string{"do 1 +"}, many))
		if len(said) != many || !same(b.Now, []int{3 + many}) || len(b.Past) != 20 || slices.ContainsFunc(said, func(answer string) bool { return answer != "ok" }) {
			t.Fatalf("%d lines: %s, %q", many, benchText(b), said)
		}
	}
	for _, many := range []int{41, 42, 1000} {
		for _, line := range []string{"do 1 +", "now", "", "do +"} {
			if b, said := impl.BenchSay(bench("3"), slices.Repeat([]string{line}, many)); said != nil || !noBench(b) {
				t.Fatalf("%d lines: %s, %q", many, benchText(b), said)
			}
		}
	}
}

// Promise 30.
func TestWhateverIsSaidWhatIsSafeIsDone(t *testing.T) {
	r := rand.New(rand.NewSource(88))
	typed, untyped := 0, 0
	for i := range 200 {
		b := drawnBench(r)
		lines := drawnLines(r, b, []int{impl.MaxLines, r.Intn(impl.MaxLines), r.Intn(8)}[i%3])
		after, answers := impl.BenchSay(b, lines)
		model, want := linesOf(b), []string{}
		for _, line := range lines {
			next, answer := modelSay(model, line)
			model, want = next, append(want, answer)
		}
		if !slices.Equal(linesOf(after), model) || !slices.Equal(answers, want) || slices.Contains(answers, "") || !impl.BenchValid(after) {
			t.Fatalf("%q on %s is answered by %q, not %q, and leads to %s", lines, benchText(b), answers, want, benchText(after))
		}
		for cut := range len(lines) + 1 {
			first, before := impl.BenchSay(b, lines[:cut])
			second, behind := impl.BenchSay(first, lines[cut:])
			if !sameBench(second, after) || !slices.Equal(slices.Concat(before, behind), answers) {
				t.Fatalf("%q on %s in two parts, the first of %d, leads to %s", lines, benchText(b), cut, benchText(second))
			}
			safe := "no"
			if _, ok := impl.EffectOf(first.Now); ok {
				typed++
				safe = "yes"
			} else {
				untyped++
			}
			if _, got := impl.BenchSay(first, []string{"safe --", "steps --"}); !slices.Equal(got, []string{safe, "0"}) {
				t.Fatalf("the program without words on %s is answered by %q", benchText(first), got)
			}
		}
	}
	if typed < 1000 || untyped < 100 {
		t.Fatalf("with an effect %d, without %d", typed, untyped)
	}
}

// keptBench checks that a call wrote to nothing of the bench that it was given, nor to the capacity behind it.
func keptBench(t *testing.T, b impl.Bench, call func(b impl.Bench)) {
	t.Helper()
	kept(t, b.Now, func(now []int) {
		keptTexts(t, b.Past, func(past []string) {
			call(impl.Bench{Now: now, Past: past})
		})
	})
}

func keptTexts(t *testing.T, texts []string, call func(texts []string)) {
	t.Helper()
	given := append(slices.Clone(texts), "a", "b", "c")
	was := slices.Clone(given)
	call(given[:len(texts)])
	if !slices.Equal(given, was) {
		t.Fatalf("%q was written to: %q", was, given)
	}
}

func keptDeeds(t *testing.T, list []impl.Deed, call func(list []impl.Deed)) {
	t.Helper()
	given := append(slices.Clone(list), impl.Deed{Kind: 7}, impl.Deed{Text: "b"})
	was := slices.Clone(given)
	call(given[:len(list)])
	if !slices.Equal(given, was) {
		t.Fatalf("%v was written to: %v", was, given)
	}
}

// spoilBench writes over all of a bench, its spare capacity as well.
func spoilBench(b impl.Bench) {
	spoil(b.Now)
	spoilTexts(b.Past)
}

func spoilTexts(texts []string) {
	texts = texts[:cap(texts)]
	for i := range texts {
		texts[i] = "spoilt"
	}
}

func TestStage10ArgumentsAreKept(t *testing.T) {
	r := rand.New(rand.NewSource(89))
	for _, b := range append(goodBenches(), badBenches()...) {
		list, lines := []impl.Deed{{Kind: 2}, {Text: "1"}, {Kind: 1}, {Text: "+"}}, []string{"do 1", "now", "back", "clear"}
		if impl.BenchValid(b) {
			list, lines = append(list, drawnDeeds(r, b, 8)...), append(lines, drawnLines(r, b, 8)...)
		}
		keptBench(t, b, func(b impl.Bench) {
			impl.BenchValid(b)
			for _, d := range list {
				next, _ := impl.BenchDo(b, d)
				spoilBench(next)
			}
			for _, line := range lines {
				next, _ := impl.BenchLine(b, line)
				spoilBench(next)
			}
			keptDeeds(t, list, func(list []impl.Deed) {
				next, _ := impl.BenchRun(b, list)
				spoilBench(next)
				next, _ = impl.BenchRun(b, nil)
				spoilBench(next)
				got, _ := impl.ReadJournal(impl.JournalText(list))
				clear(got[:cap(got)])
			})
			keptTexts(t, lines, func(lines []string) {
				next, answers := impl.BenchSay(b, lines)
				spoilBench(next)
				spoilTexts(answers)
				next, answers = impl.BenchSay(b, nil)
				spoilBench(next)
				spoilTexts(answers)
			})
		})
	}
	for _, s := range append(goodStacks(), badStacks()...) {
		keptStack(t, s, func(s [][]int) {
			spoilBench(impl.BenchNew(s))
		})
	}
}

func TestStage10ResultsShareNothing(t *testing.T) {
	r := rand.New(rand.NewSource(90))
	for _, b := range goodBenches() {
		list, lines := drawnDeeds(r, b, 6), append(drawnLines(r, b, 6), "do 1", "do 2")
		results := func() (benches []impl.Bench, answers []string) {
			s, _ := impl.ProgStack(b.Now)
			benches = append(benches, impl.BenchNew(s))
			for _, d := range append(list, impl.Deed{Kind: 2}, impl.Deed{Kind: 1}, impl.Deed{Text: "1"}) {
				next, _ := impl.BenchDo(b, d)
				benches = append(benches, next)
			}
			for _, line := range lines {
				next, _ := impl.BenchLine(b, line)
				benches = append(benches, next)
			}
			run, _ := impl.BenchRun(b, list)
			said, answers := impl.BenchSay(b, lines)
			return append(benches, run, said), answers
		}
		first, firstAnswers := results()
		second, secondAnswers := results()
		for i, c := range second {
			spoilBench(c)
			for j, d := range second[i+1:] {
				if !sameBench(d, first[i+1+j]) {
					t.Fatalf("benches behind %s share memory", benchText(b))
				}
			}
		}
		if !slices.Equal(firstAnswers, secondAnswers) {
			t.Fatalf("the answers on %s share memory with a bench", benchText(b))
		}
		spoilTexts(secondAnswers)
		again, answers := results()
		if !slices.EqualFunc(again, first, sameBench) || !slices.Equal(answers, firstAnswers) {
			t.Fatalf("results of %s share memory", benchText(b))
		}
		// What has room behind it must not be written to by what is made of it.
		next, _ := impl.BenchDo(b, impl.Deed{Text: "drop 1"})
		left, _ := impl.BenchDo(next, impl.Deed{Text: "2"})
		want := benchText(left)
		right, _ := impl.BenchDo(next, impl.Deed{Kind: 1})
		spoilBench(right)
		spoilBench(next)
		if benchText(left) != want {
			t.Fatalf("two benches behind %s share memory", benchText(b))
		}
	}
}
