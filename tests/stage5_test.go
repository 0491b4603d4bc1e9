package tests

import (
	"math/rand"
	"slices"
	"strings"
	"testing"

	"loop.example/stackwords/impl"
)

// endless has moves that can be done on and on: behind two of them it is as it was.
const endless = "[ dup call ] dup call"

// ruled returns programs to which rules can be used, and others.
func ruled() [][]int {
	list := programs()
	for _, text := range []string{
		"", "1", "drop", "1 drop", "1 2 + 3 4 +", "999 [ ] times", "3 [ 2 * ] times", "1 0 [ 2 ] times 3", "[ [ 1 drop ] ] call call", "2 [ dup * ] call 3 swap drop",
		"1 3 [ 2 * ] times [ + ] dip", "0 [ 1 ] [ 2 ] if swap", "1 [ 2 ] [ 3 ] dip call", "+ 1 2 + - 3 4 - *", endless, "1 [ 1 + dup call ] dup call", "99 [ ] times", "100 [ ] times", "1 drop " + endless, "0 999 [ 1 + ] times",
	} {
		list = append(list, words(text))
	}
	r := rand.New(rand.NewSource(31))
	for range 250 {
		list = append(list, drawnRuled(r, 20), drawnRuled(r, impl.MaxWords))
	}
	return list
}

// ats returns places in a program and around it.
func ats(p []int) []int {
	list := []int{-maxInt - 1, -100, -2, -1, impl.MaxWords, impl.MaxWords + 1, maxInt}
	for at := range len(partTexts(p)) + 3 {
		list = append(list, at)
	}
	return list
}

var whiches = []int{-maxInt - 1, -9, -2, -1, 0, 1, 2, 3, 4, 5, 6, 7, 8, 9, 10, 1001, maxInt}

func TestMovesOfText(t *testing.T) {
	for _, x := range []struct {
		text      string
		which, at int
		want      string
	}{
		{"1 drop", 0, 0, ""}, {"[ ] drop", 0, 0, ""}, {"5 1 drop dup", 0, 1, "5 dup"}, {"[ 1 drop ] drop", 0, 0, ""}, {"drop 0 drop drop", 0, 1, "drop drop"},
		{"1 dup", 1, 0, "1 1"}, {"[ ] dup", 1, 0, "[ ] [ ]"}, {"+ [ 1 [ 2 ] ] dup +", 1, 1, "+ [ 1 [ 2 ] ] [ 1 [ 2 ] ] +"}, {"999 dup dup", 1, 0, "999 999 dup"},
		{"1 2 swap", 2, 0, "2 1"}, {"1 [ 2 ] swap", 2, 0, "[ 2 ] 1"}, {"[ 1 ] 2 swap", 2, 0, "2 [ 1 ]"}, {"3 [ 1 ] [ 2 ] swap 4", 2, 1, "3 [ 2 ] [ 1 ] 4"}, {"1 1 swap", 2, 0, "1 1"},
		{"[ ] call", 3, 0, ""}, {"[ dup * ] call", 3, 0, "dup *"}, {"2 [ 1 [ + ] ] call 3", 3, 1, "2 1 [ + ] 3"},
		{"1 [ ] dip", 4, 0, "1"}, {"1 [ 2 + ] dip", 4, 0, "2 + 1"}, {"[ 1 ] [ 2 ] dip", 4, 0, "2 [ 1 ]"}, {"drop 7 [ drop ] dip dup", 4, 1, "drop drop 7 dup"},
		{"1 2 +", 5, 0, "3"}, {"1 2 -", 5, 0, "999"}, {"2 1 -", 5, 0, "1"}, {"3 4 *", 5, 0, "12"}, {"1 2 <", 5, 0, "1"}, {"2 1 <", 5, 0, "0"}, {"2 2 <", 5, 0, "0"},
		{"999 1 +", 5, 0, "0"}, {"999 999 +", 5, 0, "998"}, {"999 999 *", 5, 0, "1"}, {"0 999 -", 5, 0, "1"}, {"0 0 -", 5, 0, "0"}, {"5 1 2 + +", 5, 1, "5 3 +"},
		{"1 [ 2 ] [ 3 ] if", 6, 0, "2"}, {"0 [ 2 ] [ 3 ] if", 6, 0, "3"}, {"999 [ dup ] [ ] if", 6, 0, "dup"}, {"999 [ ] [ dup ] if", 6, 0, ""}, {"0 [ 1 ] [ ] if", 6, 0, ""}, {"4 5 [ [ 1 ] ] [ 2 ] if call", 6, 1, "4 [ 1 ] call"},
		{"0 [ ] times", 7, 0, ""}, {"0 [ 1 2 ] times", 7, 0, ""}, {"3 0 [ 1 ] times 4", 7, 1, "3 4"},
		{"1 [ 2 ] times", 8, 0, "2 0 [ 2 ] times"}, {"999 [ ] times", 8, 0, "998 [ ] times"}, {"4 3 [ 2 * ] times +", 8, 1, "4 2 * 2 [ 2 * ] times +"}, {"2 [ [ 1 ] call ] times", 8, 0, "[ 1 ] call 1 [ [ 1 ] call ] times"},
	} {
		p, m := words(x.text), impl.Move{Which: x.which, At: x.at}
		if got, ok := impl.MoveDo(p, m); !ok || written(got) != x.want {
			t.Fatalf("%s after %v is %s, %v, not %s", x.text, m, written(got), ok, x.want)
		}
		if got := impl.MovesAt(p, x.at); !same(got, []int{x.which}) {
			t.Fatalf("%s at %d has the rules %v, not %d", x.text, x.at, got, x.which)
		}
		for _, which := range whiches {
			if got, ok := impl.MoveDo(p, impl.Move{Which: which, At: x.at}); which != x.which && (ok || got != nil) {
				t.Fatalf("%s at %d after the rule %d is %s", x.text, x.at, which, written(got))
			}
		}
	}
}

func TestMovesThatDoNotFit(t *testing.T) {
	for _, text := range []string{
		"", "1", "[ ]", "1 2", "1 [ 2 ] 3", "dup", "drop", "swap", "dip", "call", "+", "-", "*", "<", "if", "times", "drop drop", "dup 1",
		"1 swap", "drop 1 swap", "1 dip", "[ ] dip", "drop [ ] dip", "1 2 dip", "[ ] 1 dip", "1 call", "call [ ]", "drop call",
		"1 +", "drop 1 +", "[ ] 1 +", "1 [ ] -", "[ ] [ ] *", "1 dip <", "[ 1 ] [ 2 ] if", "1 [ 2 ] if", "drop [ 1 ] [ 2 ] if", "[ ] [ 1 ] [ 2 ] if", "1 2 [ ] if", "1 [ ] 2 if", "1 2 3 if",
		"1 times", "[ ] times", "drop [ ] times", "1 2 times", "[ ] [ ] times", "[ ] 0 times", "0 0 times", "[ [ ] ] [ ] times",
		"[ 1 drop ]", "[ [ 1 2 + ] ]", "[ 0 [ ] times ] [ 1 dup ]", "[ 1 ] [ drop ]", "[ [ 1 ] call ] +",
	} {
		p := words(text)
		for _, at := range ats(p) {
			for _, which := range whiches {
				if got, ok := impl.MoveDo(p, impl.Move{Which: which, At: at}); ok || got != nil {
					t.Fatalf("%s at %d after the rule %d is %s", text, at, which, written(got))
				}
			}
			if got := impl.MovesAt(p, at); len(got) != 0 {
				t.Fatalf("%s at %d has the rules %v", text, at, got)
			}
		}
		if got := impl.SimpleBy(p); len(got) != 0 {
			t.Fatalf("%s becomes simpler by %v", text, got)
		}
		if got := impl.SimpleOf(p); !same(got, p) {
			t.Fatalf("%s becomes %s", text, written(got))
		}
	}
}

// A rule fits at the first one of its values only, and where all of its parts are.
func TestPlacesOfMoves(t *testing.T) {
	for _, x := range []struct {
		text string
		want []impl.Move
	}{
		{"1 2 drop", []impl.Move{{Which: 0, At: 1}}}, {"1 2 3 + drop", []impl.Move{{Which: 5, At: 1}}}, {"1 2 3 swap", []impl.Move{{Which: 2, At: 1}}}, {"9 0 [ ] times", []impl.Move{{Which: 7, At: 1}}},
		{"1 1 [ ] [ ] if", []impl.Move{{Which: 6, At: 1}}}, {"0 1 [ ] dip", []impl.Move{{Which: 4, At: 1}}}, {"1 [ ] call", []impl.Move{{Which: 3, At: 1}}}, {"[ ] 1 dup", []impl.Move{{Which: 1, At: 1}}},
		{"1 drop 2 drop", []impl.Move{{Which: 0, At: 0}, {Which: 0, At: 2}}}, {"1 2 + 3 4 +", []impl.Move{{Which: 5, At: 0}, {Which: 5, At: 3}}}, {"drop 1 2 + dup", []impl.Move{{Which: 5, At: 1}}},
		{"[ 1 drop ] call [ 2 dup ] drop", []impl.Move{{Which: 3, At: 0}, {Which: 0, At: 2}}}, {"1 dup dup", []impl.Move{{Which: 1, At: 0}}},
	} {
		p := words(x.text)
		many := len(partTexts(p))
		for _, at := range ats(p) {
			var want []int
			for _, m := range x.want {
				if m.At == at {
					want = append(want, m.Which)
				}
			}
			if got := impl.MovesAt(p, at); !same(got, want) {
				t.Fatalf("%s at %d has the rules %v, not %v", x.text, at, got, want)
			}
		}
		for _, at := range []int{-maxInt - 1, -many, -1, many, many + 1, maxInt} {
			for which := range impl.RulesMany {
				if got, ok := impl.MoveDo(p, impl.Move{Which: which, At: at}); ok || got != nil {
					t.Fatalf("%s at %d after the rule %d is %s", x.text, at, which, written(got))
				}
			}
		}
	}
}

func TestMovesOfMostWords(t *testing.T) {
	for _, x := range []struct {
		before int
		text   string
		which  int
		want   string
	}{
		{54, "[ 1 ] dup", 1, "[ 1 ] [ 1 ]"}, {56, "[ ] dup", 1, "[ ] [ ]"}, {52, "3 [ 1 2 ] times", 8, "1 2 2 [ 1 2 ] times"}, {54, "2 [ 1 ] times", 8, "1 1 [ 1 ] times"}, {54, "5 [ [ ] ] times", -1, ""},
		{0, "[ " + strings.Repeat("1 ", 28) + "] dup", 1, strings.Repeat("[ "+strings.Repeat("1 ", 28)+"] ", 2)}, {0, "[ " + strings.Repeat("1 ", 29) + "] dup", -1, ""},
		{0, "2 [ " + strings.Repeat("1 ", 28) + "] times", 8, strings.Repeat("1 ", 28) + "1 [ " + strings.Repeat("1 ", 28) + "] times"}, {0, "2 [ " + strings.Repeat("1 ", 29) + "] times", -1, ""},
		// These become no longer, so that they are done in the longest programs, too.
		{58, "1 drop", 0, ""}, {58, "1 dup", 1, "1 1"}, {57, "1 2 swap", 2, "2 1"}, {54, "[ 1 2 3 ] call", 3, "1 2 3"}, {54, "4 [ 1 2 ] dip", 4, "1 2 4"}, {57, "1 2 +", 5, "3"}, {52, "0 [ 1 ] [ 2 ] if", 6, "2"}, {54, "0 [ 1 2 ] times", 7, ""}, {56, "1 [ ] times", 8, "0 [ ] times"},
	} {
		p := slices.Concat(row(impl.OpDrop, x.before), words(x.text))
		for which := range impl.RulesMany {
			got, ok := impl.MoveDo(p, impl.Move{Which: which, At: x.before})
			if ok != (which == x.which) {
				t.Fatalf("%s after the rule %d: %v", written(p), which, ok)
			}
			if want := slices.Concat(row(impl.OpDrop, x.before), words(x.want)); ok && !same(got, want) || !ok && got != nil {
				t.Fatalf("%s after the rule %d is %s", written(p), which, written(got))
			}
		}
		if x.which < 0 {
			continue
		}
		got, _ := impl.MoveDo(p, impl.Move{Which: x.which, At: x.before})
		if grows := len(words(x.want)) > len(words(x.text)); grows && len(got) != impl.MaxWords || !grows && len(p) < impl.MaxWords-1 {
			t.Fatalf("%s and %s are not at the bound", written(p), written(got))
		}
		p = slices.Concat([]int{impl.OpDrop}, p)
		if got, ok := impl.MoveDo(p, impl.Move{Which: x.which, At: x.before + 1}); len(got) > 0 || ok {
			t.Fatalf("%s after the rule %d has %d words", written(p), x.which, len(got))
		}
		if got := impl.MovesAt(p, x.before+1); len(got) != 0 {
			t.Fatalf("%s has the rules %v", written(p), got)
		}
	}
}

// Promise 51.
func TestRulesThatFitAreTold(t *testing.T) {
	var seen [impl.RulesMany]int
	for _, p := range ruled() {
		for _, at := range ats(p) {
			rules := impl.MovesAt(p, at)
			if len(rules) > 1 {
				t.Fatalf("%s at %d has the rules %v", written(p), at, rules)
			}
			for _, which := range whiches {
				m := impl.Move{Which: which, At: at}
				got, ok := impl.MoveDo(p, m)
				if ok != slices.Contains(rules, which) {
					t.Fatalf("%s at %d has the rules %v, and %d: %v", written(p), at, rules, which, ok)
				}
				want, wantOk := modelMove(p, m)
				if ok != wantOk || ok && !same(got, want) || !ok && got != nil {
					t.Fatalf("%s after %v is %s, %v, not %s, %v", written(p), m, written(got), ok, written(want), wantOk)
				}
				if ok {
					seen[which]++
					if !impl.ProgValid(got) {
						t.Fatalf("%s after %v is %s", written(p), m, written(got))
					}
				}
			}
		}
	}
	if slices.Min(seen[:]) < 50 {
		t.Fatalf("a rule is missing: %v", seen)
	}
}

// leavesTheSame checks on a stack of which it is told what the first program leaves that the second one leaves the same, in no more steps, and returns whether it is told.
func leavesTheSame(t *testing.T, p, q []int, s [][]int) bool {
	t.Helper()
	want, steps, ok := impl.RunOf(p, s)
	if !ok {
		return false
	}
	left, fewer, ok := impl.RunOf(q, s)
	if !ok || !sameStack(left, want) || fewer > steps {
		t.Fatalf("%s on %q leaves %q in %d steps, and then, as %s, %q in %d", written(p), stackTexts(s), stackTexts(want), steps, written(q), stackTexts(left), fewer)
	}
	return true
}

// stacksFor returns stacks that are drawn: many small ones, as few programs take more, and full ones.
func stacksFor(r *rand.Rand) [][][]int {
	list := [][][]int{nil, full(3), full(18)}
	for range 6 {
		list = append(list, drawnStack(r, 5))
	}
	return append(list, drawnStack(r, 20))
}

// Promise 10.
func TestRulesKeepWhatIsLeft(t *testing.T) {
	r := rand.New(rand.NewSource(32))
	var seen [impl.RulesMany]int
	effects, more := 0, 0
	for _, p := range append(ruled(), typed()...) {
		for _, m := range modelMoves(p) {
			q, ok := impl.MoveDo(p, m)
			if !ok {
				t.Fatalf("%s after %v is not told", written(p), m)
			}
			for _, s := range stacksFor(r) {
				if leavesTheSame(t, p, q, s) {
					seen[m.Which]++
				}
			}
			e, eOk := impl.EffectOf(p)
			f, fOk := impl.EffectOf(q)
			if !eOk || !fOk {
				continue
			}
			effects++
			if !impl.MoreGeneral(f, e) {
				t.Fatalf("%s after %v has the effect %s, not %s", written(p), m, impl.EffectText(f), impl.EffectText(e))
			}
			if !sameEffect(e, f) {
				more++
			}
		}
	}
	if slices.Min(seen[:]) < 100 || effects < 200 || more < 5 {
		t.Fatalf("only %v are told, %d have effects, %d more general ones", seen, effects, more)
	}
}

func TestStepsOfRules(t *testing.T) {
	for _, x := range []struct {
		text  string
		saved int
	}{
		{"1 drop", 2}, {"1 dup", 0}, {"1 2 swap", 1}, {"[ 1 ] call", 2}, {"1 [ 2 ] dip", 3}, {"1 2 +", 2}, {"0 [ 1 ] [ 2 ] if", 4}, {"0 [ 1 ] times", 3}, {"1 [ 1 ] times", 3},
	} {
		p := words(x.text)
		q, ok := impl.MoveDo(p, modelMoves(p)[0])
		_, steps, pOk := impl.RunOf(p, nil)
		_, fewer, qOk := impl.RunOf(q, nil)
		if !ok || !pOk || !qOk || steps-fewer != x.saved {
			t.Fatalf("%s takes %d steps, and %s %d", x.text, steps, written(q), fewer)
		}
	}
}

// Promise 11.
func TestWhatIsProvedLeavesTheSame(t *testing.T) {
	r := rand.New(rand.NewSource(33))
	proved, told := 0, 0
	for _, p := range ruled() {
		want, moves := drawnMoves(r, p, r.Intn(13))
		got, ok := impl.ProofRun(p, moves)
		if !ok || !same(got, want) {
			t.Fatalf("%s after %v is %s, %v, not %s", written(p), moves, written(got), ok, written(want))
		}
		if !impl.ProofOk(p, want, moves) {
			t.Fatalf("%v does not prove that %s becomes %s", moves, written(p), written(want))
		}
		if len(moves) > 1 {
			proved++
		}
		for _, s := range stacksFor(r) {
			if leavesTheSame(t, p, want, s) && len(moves) > 0 {
				told++
			}
		}
		for _, q := range [][]int{slices.Concat(want, words("1")), slices.Concat(words("drop"), want), nil, words("1"), p} {
			if got := impl.ProofOk(p, q, moves); got != same(q, want) {
				t.Fatalf("%v proves that %s becomes %s: %v", moves, written(p), written(q), got)
			}
		}
	}
	if proved < 200 || told < 500 {
		t.Fatalf("only %d are proved, and %d told", proved, told)
	}
}

// Promise 50.
func TestProofsFollowEachOther(t *testing.T) {
	r := rand.New(rand.NewSource(34))
	split := 0
	for _, p := range ruled() {
		_, moves := drawnMoves(r, p, r.Intn(30))
		if r.Intn(4) == 0 {
			moves = append(moves, impl.Move{Which: r.Intn(10), At: r.Intn(10)})
		}
		want, wantOk := impl.ProofRun(p, moves)
		for cut := range len(moves) + 1 {
			half, ok := impl.ProofRun(p, moves[:cut])
			got := []int(nil)
			if ok {
				got, ok = impl.ProofRun(half, moves[cut:])
			}
			if ok != wantOk || !same(got, want) {
				t.Fatalf("%s after %v, and then after %v, is %s, %v, not %s, %v", written(p), moves[:cut], moves[cut:], written(got), ok, written(want), wantOk)
			}
			split++
		}
	}
	if split < 2000 {
		t.Fatalf("only %d", split)
	}
}

func TestProofBounds(t *testing.T) {
	less := impl.Move{Which: 8, At: 0}
	for _, x := range []struct {
		text  string
		moves []impl.Move
		want  string
		ok    bool
	}{
		{"1 drop", nil, "1 drop", true}, {"", nil, "", true}, {"1 drop", []impl.Move{}, "1 drop", true}, {"1 drop", []impl.Move{{Which: 0, At: 0}}, "", true},
		{"1 drop", []impl.Move{{Which: 0, At: 0}, {Which: 0, At: 0}}, "", false}, {"", []impl.Move{{Which: 0, At: 0}}, "", false}, {"1 drop", []impl.Move{{Which: 1, At: 0}}, "", false},
		{"999 [ ] times", slices.Repeat([]impl.Move{less}, 99), "900 [ ] times", true}, {"999 [ ] times", slices.Repeat([]impl.Move{less}, 100), "899 [ ] times", true}, {"999 [ ] times", slices.Repeat([]impl.Move{less}, 101), "", false}, {"999 [ ] times", slices.Repeat([]impl.Move{less}, 500), "", false},
		{"1 dup +", []impl.Move{{Which: 1, At: 0}, {Which: 5, At: 0}}, "2", true}, {"1 dup +", []impl.Move{{Which: 5, At: 0}, {Which: 1, At: 0}}, "", false},
		// A move in the middle that cannot be done is not left out.
		{"1 dup + 4 drop", []impl.Move{{Which: 1, At: 0}, {Which: 0, At: 0}, {Which: 0, At: 3}}, "", false}, {"1 dup + 4 drop", []impl.Move{{Which: 1, At: 0}, {Which: 0, At: 3}}, "1 1 +", true},
		{"1 dup + 4 drop", []impl.Move{{Which: 1, At: 0}, {Which: 9, At: 0}, {Which: 5, At: 0}}, "", false}, {"1 dup + 4 drop", []impl.Move{{Which: 1, At: 0}, {Which: 5, At: -1}, {Which: 5, At: 0}}, "", false},
		{"2 [ " + strings.Repeat("1 ", 29) + "] times 3 drop", []impl.Move{{Which: 8, At: 0}, {Which: 0, At: 3}}, "", false},
	} {
		p := words(x.text)
		got, ok := impl.ProofRun(p, x.moves)
		if ok != x.ok || !same(got, words(x.want)) {
			t.Fatalf("%s after %d moves is %s, %v", x.text, len(x.moves), written(got), ok)
		}
		if got := impl.ProofOk(p, words(x.want), x.moves); got != x.ok {
			t.Fatalf("%s becomes %s by %d moves: %v", x.text, x.want, len(x.moves), got)
		}
		if impl.ProofOk(p, words("7 7 7"), x.moves) {
			t.Fatalf("%s becomes 7 7 7 by %d moves", x.text, len(x.moves))
		}
	}
}

func TestSimplerPrograms(t *testing.T) {
	m := func(which, at int) impl.Move { return impl.Move{Which: which, At: at} }
	for _, x := range []struct {
		text, want string
		moves      []impl.Move
	}{
		{"", "", nil}, {"1", "1", nil}, {"+ 1 swap", "+ 1 swap", nil}, {"[ 1 drop ]", "[ 1 drop ]", nil}, {"1 drop", "", []impl.Move{m(0, 0)}},
		{"2 [ dup * ] call 3 swap drop", "3", []impl.Move{m(3, 1), m(1, 0), m(5, 0), m(2, 0), m(0, 1)}},
		{"0 [ 1 ] [ 2 ] if swap", "2 swap", []impl.Move{m(6, 0)}}, {"1 3 [ 2 * ] times [ + ] dip", "+ 8", []impl.Move{m(8, 1), m(5, 0), m(8, 1), m(5, 0), m(8, 1), m(5, 0), m(7, 1), m(4, 0)}},
		// The least At is taken first, also if one farther on was taken before.
		{"1 2 + 3 4 +", "3 7", []impl.Move{m(5, 0), m(5, 1)}}, {"+ 1 drop - 2 drop", "+ -", []impl.Move{m(0, 1), m(0, 2)}}, {"5 1 2 + drop drop", "", []impl.Move{m(5, 1), m(0, 1), m(0, 0)}}, {"1 2 [ + ] [ ] dip call 3 dup", "3 3 3", []impl.Move{m(4, 2), m(3, 2), m(5, 0), m(1, 1)}},
		{"[ [ 1 drop ] ] call call", "", []impl.Move{m(3, 0), m(3, 0), m(0, 0)}}, {"2 [ 3 ] times", "3 3", []impl.Move{m(8, 0), m(8, 1), m(7, 2)}}, {"1 2 swap swap", "1 2", []impl.Move{m(2, 0), m(2, 0)}},
		// What would be too long is left out, until there is room for it.
		{strings.Repeat("drop ", 52) + "1 [ 2 3 ] times 4 drop", strings.Repeat("drop ", 52) + "2 3", []impl.Move{m(0, 55), m(8, 52), m(7, 54)}},
		{strings.Repeat("drop ", 54) + "1 [ 2 3 ] times", strings.Repeat("drop ", 54) + "1 [ 2 3 ] times", nil},
	} {
		p := words(x.text)
		if got := impl.SimpleBy(p); !slices.Equal(got, x.moves) {
			t.Fatalf("%s becomes simpler by %v, not %v", x.text, got, x.moves)
		}
		if got := impl.SimpleOf(p); written(got) != x.want {
			t.Fatalf("%s becomes %s, not %s", x.text, written(got), x.want)
		}
	}
}

func TestSimplerOnAndOn(t *testing.T) {
	for _, x := range []struct {
		text  string
		moves int
		want  string
	}{
		{"98 [ ] times", 99, ""}, {"99 [ ] times", 100, ""}, {"100 [ ] times", 100, "0 [ ] times"}, {"101 [ ] times", 100, "1 [ ] times"}, {"999 [ ] times", 100, "899 [ ] times"},
		{"98 [ ] times 1 drop", 100, ""}, {"99 [ ] times 1 drop", 100, "1 drop"}, {"1 drop 99 [ ] times", 100, "0 [ ] times"}, {"0 40 [ 1 + ] times", 81, "40"}, {"0 50 [ 1 + ] times", 100, "50 0 [ 1 + ] times"}, {"0 999 [ 1 + ] times", 100, "50 949 [ 1 + ] times"},
		{endless, 100, endless}, {"1 drop " + endless, 100, "[ dup call ] [ dup call ] call"}, {"1 [ 1 + dup call ] dup call", 2, "1 [ 1 + dup call ] 1 + dup call"},
		{"[ ] 99 [ drop [ ] ] times", 100, "[ ] 49 [ drop [ ] ] times"},
	} {
		p := words(x.text)
		moves := impl.SimpleBy(p)
		if len(moves) != x.moves {
			t.Fatalf("%s becomes simpler by %d moves, not %d", x.text, len(moves), x.moves)
		}
		if got := impl.SimpleOf(p); written(got) != x.want {
			t.Fatalf("%s becomes %s, not %s", x.text, written(got), x.want)
		}
		if !impl.ProofOk(p, words(x.want), moves) {
			t.Fatalf("%v does not prove that %s becomes %s", moves, x.text, x.want)
		}
	}
}

// Promises 12 and 13.
func TestSimplerProgramsComeWithAProof(t *testing.T) {
	none, some, most, told := 0, 0, 0, 0
	for _, p := range append(ruled(), typed()...) {
		want, wantMoves := modelSimple(p)
		q, moves := impl.SimpleOf(p), impl.SimpleBy(p)
		if !same(q, want) || !slices.Equal(moves, wantMoves) {
			t.Fatalf("%s becomes %s by %v, not %s by %v", written(p), written(q), moves, written(want), wantMoves)
		}
		if len(moves) > impl.MaxMoves || !impl.ProofOk(p, q, moves) {
			t.Fatalf("%v does not prove that %s becomes %s", moves, written(p), written(q))
		}
		switch len(moves) {
		case 0:
			none++
		case impl.MaxMoves:
			most++
		default:
			some++
		}
		if len(moves) < impl.MaxMoves {
			for _, at := range ats(q) {
				if rules := impl.MovesAt(q, at); len(rules) > 0 {
					t.Fatalf("%s becomes %s, which has the rules %v at %d", written(p), written(q), rules, at)
				}
			}
		}
		if leavesTheSame(t, p, q, nil) && len(moves) > 0 {
			told++
		}
	}
	if none < 50 || some < 200 || most < 3 || told < 30 {
		t.Fatalf("none %d, some %d, most %d, told %d", none, some, most, told)
	}
}

// Promise 13.
func TestSimplerProgramsLeaveTheSame(t *testing.T) {
	r := rand.New(rand.NewSource(35))
	moved := 0
	for range 500 {
		p := drawnRun(r, nil, 25)
		want, _, ok := modelRun(p, nil)
		if !ok {
			continue
		}
		q := impl.SimpleOf(p)
		left, _, ok := impl.RunOf(q, nil)
		if !ok || !sameStack(left, want) {
			t.Fatalf("%s leaves %q, and %s %q", written(p), stackTexts(want), written(q), stackTexts(left))
		}
		if !same(p, q) {
			moved++
		}
	}
	if moved < 200 {
		t.Fatalf("only %d become other ones", moved)
	}
}

func TestRulesOfOthers(t *testing.T) {
	list := badPrograms()
	for _, text := range []string{"1 drop [", "] 1 drop", "1 drop ] [", "[ 1 drop", strings.Repeat("1 drop ", 31), "1 [ 2 ] ] dip"} {
		list = append(list, words(text))
	}
	list = append(list, []int{1, impl.OpDrop, 1000}, []int{-1, impl.OpDrop}, []int{1000, impl.OpDup}, []int{1101}, slices.Concat(words("1 drop"), row(0, 59)))
	for _, p := range list {
		for _, which := range whiches {
			for _, at := range []int{-maxInt - 1, -1, 0, 1, 2, 60, maxInt} {
				m := impl.Move{Which: which, At: at}
				if got, ok := impl.MoveDo(p, m); ok || got != nil {
					t.Fatalf("%v after %v is %v", p, m, got)
				}
				if got := impl.MovesAt(p, at); got != nil {
					t.Fatalf("%v has the rules %v", p, got)
				}
				if got, ok := impl.ProofRun(p, []impl.Move{m}); ok || got != nil {
					t.Fatalf("%v after %v is %v", p, m, got)
				}
			}
		}
		if got, ok := impl.ProofRun(p, nil); ok || got != nil {
			t.Fatalf("%v is %v without moves", p, got)
		}
		if impl.ProofOk(p, p, nil) || impl.ProofOk(nil, p, nil) || impl.ProofOk(p, nil, nil) || impl.ProofOk(p, nil, []impl.Move{{Which: 0, At: 0}}) || impl.ProofOk(words("1 drop"), p, []impl.Move{{Which: 0, At: 0}}) {
			t.Fatalf("%v is in a proof", p)
		}
		if got := impl.SimpleBy(p); got != nil {
			t.Fatalf("%v becomes simpler by %v", p, got)
		}
		if got := impl.SimpleOf(p); got != nil {
			t.Fatalf("%v becomes %v", p, got)
		}
	}
}

func TestStage5ArgumentsAreKept(t *testing.T) {
	for _, p := range append(ruled(), badPrograms()...) {
		kept(t, p, func(p []int) {
			moves := impl.SimpleBy(p)
			given := append(slices.Clone(moves), impl.Move{Which: -5, At: -5})
			was := slices.Clone(given)
			for _, m := range append(modelMovesOf(p), impl.Move{}) {
				next, _ := impl.MoveDo(p, m)
				spoil(next)
				spoil(impl.MovesAt(p, m.At))
			}
			last, _ := impl.ProofRun(p, given[:len(moves)])
			spoil(last)
			last, _ = impl.ProofRun(p, given[:0])
			spoil(last)
			impl.ProofOk(p, p, given[:len(moves)])
			impl.ProofOk(p, p, given[:0])
			spoil(impl.SimpleOf(p))
			if !slices.Equal(given, was) {
				t.Fatalf("%v was written to: %v", was, given)
			}
		})
	}
}

// modelMovesOf is for rows of any words.
func modelMovesOf(p []int) []impl.Move {
	if !impl.ProgValid(p) {
		return nil
	}
	return modelMoves(p)
}

func TestStage5ResultsShareNothing(t *testing.T) {
	for _, p := range ruled() {
		for _, call := range []func() []int{
			func() []int { return impl.SimpleOf(p) },
			func() []int { next, _ := impl.ProofRun(p, nil); return next },
			func() []int { next, _ := impl.ProofRun(p, impl.SimpleBy(p)); return next },
			func() []int { next, _ := impl.MoveDo(p, impl.Move{Which: 1, At: 0}); return next },
			func() []int { return impl.MovesAt(p, 0) },
		} {
			first, second := call(), call()
			want := slices.Clone(first)
			spoil(first)
			if !same(second, want) || !same(call(), want) {
				t.Fatalf("results for %s share memory", written(p))
			}
		}
		first, second := impl.SimpleBy(p), impl.SimpleBy(p)
		want := slices.Clone(first)
		first = first[:cap(first)]
		for i := range first {
			first[i] = impl.Move{Which: -7, At: -7}
		}
		if !slices.Equal(second, want) || !slices.Equal(impl.SimpleBy(p), want) {
			t.Fatalf("moves for %s share memory", written(p))
		}
	}
}
