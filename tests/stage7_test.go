package tests

import (
	"maps"
	"math/rand"
	"slices"
	"strings"
	"testing"

	"loop.example/stackwords/impl"
)

// moving are the words of which shuffles are.
const moving = "dup drop swap [ ] dip"

func dups(many int) []int {
	return row(impl.OpDup, many)
}

func drops(many int) []int {
	return row(impl.OpDrop, many)
}

// shuffles returns shuffles: all small ones, those at the bounds, and drawn ones.
func shuffles() [][]int {
	var list [][]int
	for _, p := range rowsOf(words(moving), 6) {
		if modelIsShuffle(p) {
			list = append(list, p)
		}
	}
	for _, op := range []string{"dup", "drop", "swap", "[ ] dip"} {
		for many := range 7 {
			list = append(list, deep(many, op))
		}
		list = append(list, deep(18, op), slices.Repeat(words(op), 15), slices.Repeat(words(op), 20), slices.Repeat(words(op), 60/len(words(op))))
	}
	for many := 13; many <= 22; many++ {
		list = append(list, dups(many), slices.Concat(dups(many), drops(3)), slices.Concat(words("drop"), dups(many)), underOne(dups(many)), underOne(slices.Concat(dups(many), drops(3))), slices.Concat(dups(many), words("[ drop ] dip")))
	}
	list = append(list, slices.Concat(dups(30), drops(30)), slices.Concat(dups(29), drops(31)), deep(19, "dup"))
	r := rand.New(rand.NewSource(51))
	for range 300 {
		list = append(list, drawnShuffle(r, 8), drawnShuffle(r, 25), drawnShuffle(r, impl.MaxWords))
	}
	return list
}

// notShuffles returns valid programs that are no shuffles.
func notShuffles() [][]int {
	var list [][]int
	for _, text := range []string{
		"1", "0", "999", "dip", "call", "+", "-", "*", "<", "if", "times", "dup 1 drop", "1 drop", "swap call", "dup +",
		"[ ]", "[ dup ]", "dup [ ]", "[ ] [ ]", "[ ] [ ] dip", "[ drop ] drop", "[ ] dup", "[ ] swap dip", "[ ] dup dip", "[ ] call", "[ dup ] call", "[ ] dup call", "[ ] 1 dip", "[ ] [ ] [ ] dip dip", "[ ] [ ] if",
		"dip dup", "dup dip", "dip [ ] dip", "[ ] dip dip", "[ dip ] dip", "[ ] dip [ ]", "[ ] dip [ dup ] dip [ swap ]", "[ dup ] dip [ drop ] call",
		"[ 1 ] dip", "[ + ] dip", "[ dup dip ] dip", "[ [ ] ] dip", "[ [ dup ] ] dip", "[ [ ] call ] dip", "[ [ ] dip dip ] dip", "[ [ ] dip [ ] ] dip", "[ [ ] dip ]", "[ [ ] dip ] dup", "[ [ 1 ] dip ] dip", "[ [ [ 1 ] dip ] dip ] dip", "[ [ [ ] ] dip ] dip", "[ [ [ ] dip ] ] dip", "[ dup ] dip 1", "1 [ dup ] dip",
		modelUnder(18, "1"), modelUnder(18, "dip"), modelUnder(18, "[ ]"), modelUnder(19, "call"), "[ " + modelUnder(18, "dup") + " ]",
	} {
		list = append(list, words(text))
	}
	return append(list, row(0, impl.MaxWords), nest(30), slices.Concat(dups(59), words("1")), slices.Concat(dups(58), words("[ ]")), row(impl.OpDip, impl.MaxWords))
}

func TestShufflesOfText(t *testing.T) {
	for _, text := range []string{
		"", "dup", "drop", "swap", "drop drop drop", "swap swap", "dup drop swap", "[ ] dip", "[ dup ] dip", "[ ] dip [ ] dip", "swap [ dup ] dip", "[ drop swap ] dip dup",
		"[ [ ] dip ] dip", "[ [ ] dip [ ] dip ] dip", "[ [ drop ] dip ] dip [ drop ] dip", "[ dup [ swap [ drop ] dip ] dip dup ] dip swap", strings.Repeat("[ ] dip ", 20), modelUnder(19, "drop"),
	} {
		if !impl.IsShuffle(words(text)) {
			t.Fatalf("%s is no shuffle", text)
		}
	}
	for _, p := range notShuffles() {
		if impl.IsShuffle(p) || modelIsShuffle(p) {
			t.Fatalf("%s is a shuffle", written(p))
		}
	}
}

func TestShufflesOfAllKinds(t *testing.T) {
	list := slices.Concat(rowsOf(words(moving), 6), rowsOf(words("dup 1 call [ ] dip"), 5), programs(), ruled(), shuffles())
	for _, p := range shuffles() {
		if len(p) < impl.MaxWords {
			list = append(list, slices.Concat(p, words("dip")), slices.Concat(p, words("call")), slices.Concat(p, words("7")), slices.Concat(words("dip"), p))
		}
		if len(p)+3 <= impl.MaxWords {
			list = append(list, quoted(p), append(quoted(p), impl.OpCall), append(quoted(p), impl.OpSwap), slices.Concat(words("7"), underOne(p)))
		}
	}
	seen := 0
	for _, p := range list {
		want := modelIsShuffle(p)
		if got := impl.IsShuffle(p); got != want {
			t.Fatalf("%s is a shuffle: %v", written(p), got)
		}
		if want {
			seen++
		}
	}
	if seen < 1000 {
		t.Fatalf("only %d", seen)
	}
}

// Promise 55.
func TestShufflesUnderAValue(t *testing.T) {
	fit := 0
	for _, p := range shuffles() {
		if !impl.IsShuffle(p) {
			t.Fatalf("%s is no shuffle", written(p))
		}
		more := underOne(p)
		if got := impl.IsShuffle(more); got != (len(more) <= impl.MaxWords) {
			t.Fatalf("%s is a shuffle: %v", written(more), got)
		}
		if len(more) > impl.MaxWords {
			continue
		}
		fit++
		for many := range impl.MaxPlaces {
			want, wantOk := modelPlaces(p, many)
			got, ok := impl.PlacesOf(more, many+1)
			if wantOk = wantOk && len(want) < impl.MaxStack; ok != wantOk || ok && !same(got, append(want, many)) {
				t.Fatalf("%s of %d leaves %v, %v, and of one less, without the brackets, %v, %v", written(more), many+1, got, ok, want, wantOk)
			}
		}
	}
	for _, p := range notShuffles() {
		if impl.IsShuffle(underOne(p)) {
			t.Fatalf("%s is a shuffle", written(underOne(p)))
		}
	}
	if fit < 500 {
		t.Fatalf("only %d fit", fit)
	}
}

func TestPlacesOfText(t *testing.T) {
	for _, x := range []struct {
		text string
		many int
		want string
		ok   bool
	}{
		{"", 0, "", true}, {"", 1, "a", true}, {"", 5, "abcde", true}, {"dup", 0, "", false}, {"dup", 1, "aa", true}, {"dup", 5, "abcdee", true}, {"drop", 0, "", false}, {"drop", 1, "", true}, {"drop", 3, "ab", true},
		{"swap", 0, "", false}, {"swap", 1, "", false}, {"swap", 2, "ba", true}, {"swap", 4, "abdc", true}, {"swap swap", 1, "", false}, {"swap swap", 2, "ab", true}, {"swap swap", 5, "abcde", true}, {"dup drop", 1, "a", true}, {"dup drop", 0, "", false}, {"dup swap", 1, "aa", true},
		{"drop drop drop", 2, "", false}, {"drop drop drop", 3, "", true}, {"drop drop drop", 5, "ab", true}, {"drop drop drop drop drop", 5, "", true}, {"drop drop drop drop drop drop", 5, "", false}, {"dup drop drop", 1, "", true}, {"drop dup", 1, "", false},
		{"[ ] dip", 0, "", false}, {"[ ] dip", 1, "a", true}, {"[ ] dip [ ] dip", 1, "a", true}, {"[ [ ] dip ] dip", 1, "", false}, {"[ [ ] dip ] dip", 2, "ab", true}, {"[ [ [ ] dip ] dip ] dip", 2, "", false}, {"[ [ [ ] dip ] dip ] dip", 3, "abc", true},
		{"[ dup ] dip", 1, "", false}, {"[ dup ] dip", 2, "aab", true}, {"[ drop ] dip", 2, "b", true}, {"[ drop ] dip", 1, "", false}, {"[ swap ] dip", 3, "bac", true}, {"[ swap ] dip", 2, "", false}, {"[ [ drop ] dip ] dip", 3, "bc", true}, {"[ [ swap ] dip ] dip", 5, "acbde", true}, {"[ [ swap ] dip ] dip", 3, "", false},
		{"swap [ dup ] dip", 2, "bba", true}, {"swap [ dup ] dip", 3, "accb", true}, {"swap [ dup ] dip", 1, "", false}, {"[ swap ] dip swap", 3, "bca", true}, {"swap [ swap ] dip", 3, "cab", true}, {"dup [ [ swap ] dip swap ] dip", 3, "bcac", true},
		{"[ dup drop ] dip drop", 2, "a", true}, {"drop [ ] dip", 1, "", false}, {"[ drop ] dip [ drop ] dip", 2, "", false}, {"[ drop ] dip [ drop ] dip", 3, "c", true}, {"[ drop drop ] dip drop", 3, "", true}, {"[ dup [ drop ] dip ] dip", 2, "ab", true},
		{"", -1, "", false}, {"", 6, "", false}, {"", maxInt, "", false}, {"", -maxInt - 1, "", false}, {"dup", -1, "", false}, {"drop", 6, "", false}, {"[ ] dip", 6, "", false}, {"[ ] dip", -1, "", false},
	} {
		p := words(x.text)
		got, ok := impl.PlacesOf(p, x.many)
		if ok != x.ok || !same(got, placesIn(x.want)) || !ok && got != nil {
			t.Fatalf("%s of %d values leaves %v, %v, not %s, %v", x.text, x.many, got, ok, x.want, x.ok)
		}
		if want, wantOk := modelPlaces(p, x.many); wantOk != ok || !same(want, got) {
			t.Fatalf("%s of %d values leaves %v, %v", x.text, x.many, want, wantOk)
		}
	}
}

// What is left must fit on a stack; what is there only in between does not matter.
func TestMostPlaces(t *testing.T) {
	for _, x := range []struct {
		p    []int
		many int
		want int // how many are left, or -1
	}{
		{dups(19), 1, 20}, {dups(20), 1, -1}, {dups(15), 5, 20}, {dups(16), 5, -1}, {dups(18), 2, 20}, {dups(19), 2, -1}, {dups(60), 1, -1}, {dups(60), 0, -1},
		{slices.Concat(dups(20), drops(1)), 1, 20}, {slices.Concat(dups(20), drops(1)), 2, -1}, {slices.Concat(dups(20), drops(2)), 2, 20}, {slices.Concat(dups(30), drops(30)), 1, 1}, {slices.Concat(dups(30), drops(30)), 5, 5}, {slices.Concat(dups(29), drops(31)), 1, -1}, {slices.Concat(dups(29), drops(31)), 2, 0},
		{underOne(dups(18)), 2, 20}, {underOne(dups(19)), 2, -1}, {underOne(dups(15)), 5, 20}, {underOne(dups(16)), 5, -1}, {underOne(slices.Concat(dups(28), drops(28))), 2, 2}, {underOne(slices.Concat(dups(28), drops(10))), 2, 20}, {underOne(slices.Concat(dups(28), drops(9))), 2, -1},
		{slices.Concat(underOne(dups(19)), drops(1)), 2, 20}, {slices.Concat(underOne(dups(20)), drops(1)), 2, -1}, {slices.Concat(underOne(dups(19)), drops(1)), 3, -1}, {slices.Concat(dups(25), underOne(drops(6))), 1, 20}, {slices.Concat(dups(25), underOne(drops(5))), 1, -1},
		// The stack of chapter 2 would have no place for the program that dip takes.
		{slices.Concat(dups(19), words("[ ] dip")), 1, 20}, {slices.Concat(dups(18), words("[ dup ] dip")), 1, 20}, {slices.Concat(dups(19), words("[ dup ] dip")), 1, -1},
	} {
		got, ok := impl.PlacesOf(x.p, x.many)
		if ok != (x.want >= 0) || len(got) != max(x.want, 0) || !ok && got != nil {
			t.Fatalf("%s of %d leaves %v, %v, not %d", written(x.p), x.many, got, ok, x.want)
		}
	}
}

// Promise 16, but for the stacks.
func TestPlacesOfShuffles(t *testing.T) {
	short, told, long := 0, 0, 0
	for _, p := range shuffles() {
		for many := -2; many <= 8; many++ {
			want, wantOk := modelPlaces(p, many)
			got, ok := impl.PlacesOf(p, many)
			if ok != wantOk || !same(got, want) || !ok && got != nil {
				t.Fatalf("%s of %d leaves %v, %v, not %v, %v", written(p), many, got, ok, want, wantOk)
			}
			if many < 0 || many >= impl.MaxPlaces {
				continue
			}
			more, moreOk := impl.PlacesOf(p, many+1)
			switch {
			case !ok:
				short++
			case len(got) == impl.MaxStack:
				long++
				if moreOk {
					t.Fatalf("%s of %d leaves %v", written(p), many+1, more)
				}
			default:
				told++
				up := []int{0}
				for _, place := range got {
					up = append(up, place+1)
				}
				if !moreOk || !same(more, up) {
					t.Fatalf("%s of %d leaves %v, %v, and of one less %v", written(p), many+1, more, moreOk, got)
				}
			}
		}
	}
	if short < 1000 || told < 1000 || long < 20 {
		t.Fatalf("short %d, told %d, long %d", short, told, long)
	}
}

// stacksOf returns stacks of exactly so many values.
func stacksOf(r *rand.Rand, many int) [][][]int {
	list := [][][]int{full(many)}
	for range 3 {
		s := [][]int{}
		for range many {
			s = append(s, drawnValue(r))
		}
		list = append(list, s)
	}
	return list
}

// valuesAt returns the values of a stack at these places.
func valuesAt(s [][]int, places []int) [][]int {
	left := [][]int{}
	for _, place := range places {
		left = append(left, s[place])
	}
	return left
}

// leavesPlaces checks that a program leaves the values at these places of a stack, unless more than MaxStack values are there in between, and returns whether it is told.
func leavesPlaces(t *testing.T, p []int, s [][]int, places []int) bool {
	t.Helper()
	left, _, ok := impl.RunOf(p, s)
	if why, _ := impl.StopOf(p, s); !ok && why != impl.StopFull {
		t.Fatalf("%s on %q stops with %d", written(p), stackTexts(s), why)
	}
	if want := valuesAt(s, places); ok && !sameStack(left, want) {
		t.Fatalf("%s on %q leaves %q, not %q", written(p), stackTexts(s), stackTexts(left), stackTexts(want))
	}
	return ok
}

// Promise 16.
func TestPlacesTellWhatIsLeft(t *testing.T) {
	r := rand.New(rand.NewSource(52))
	told, over := 0, 0
	for _, p := range shuffles() {
		for many := range impl.MaxPlaces + 1 {
			places, ok := impl.PlacesOf(p, many)
			for _, s := range stacksOf(r, many) {
				if !ok {
					if left, _, ok := impl.RunOf(p, s); ok {
						t.Fatalf("%s on %q leaves %q", written(p), stackTexts(s), stackTexts(left))
					}
					continue
				}
				if !leavesPlaces(t, p, s, places) {
					over++
					continue
				}
				told++
				more := withBottom(drawnValue(r), s)
				up := []int{0}
				for _, place := range places {
					up = append(up, place+1)
				}
				leavesPlaces(t, p, more, up)
			}
		}
	}
	if told < 5000 || over < 50 || over > told/10 {
		t.Fatalf("told %d, over %d", told, over)
	}
}

func TestTakesOfText(t *testing.T) {
	for _, x := range []struct {
		p    []int
		want int
	}{
		{nil, 0}, {words("dup"), 1}, {words("drop"), 1}, {words("swap"), 2}, {words("[ ] dip"), 1}, {words("[ [ ] dip ] dip"), 2}, {words("[ dup ] dip"), 2}, {words("[ swap ] dip"), 3}, {words("dup swap"), 1}, {words("dup dup drop drop drop"), 1}, {words("swap [ dup ] dip"), 2}, {words("swap swap"), 2},
		{drops(4), 4}, {drops(5), 5}, {drops(6), -1}, {drops(60), -1}, {deep(4, "drop"), 5}, {deep(5, "drop"), -1}, {deep(3, "swap"), 5}, {deep(4, "swap"), -1}, {deep(5, "[ ] dip"), -1}, {deep(4, "[ ] dip"), 5}, {slices.Concat(drops(4), words("swap")), -1}, {slices.Concat(drops(3), words("swap")), 5}, {slices.Concat(drops(5), words("dup")), -1},
		{dups(19), 1}, {dups(20), -1}, {slices.Concat(drops(4), dups(19)), 5}, {slices.Concat(drops(4), dups(20)), -1}, {slices.Concat(dups(20), drops(1)), 1}, {underOne(dups(18)), 2}, {underOne(dups(19)), -1},
	} {
		if got := impl.TakesOf(x.p); got != x.want {
			t.Fatalf("%s takes %d, not %d", written(x.p), got, x.want)
		}
	}
}

// Promise 56.
func TestEffectsTellWhatAShuffleTakes(t *testing.T) {
	var seen [impl.MaxPlaces + 2]int
	for _, p := range shuffles() {
		got := impl.TakesOf(p)
		if want := modelTakes(p); got != want {
			t.Fatalf("%s takes %d, not %d", written(p), got, want)
		}
		e, ok := impl.EffectOf(p)
		if !ok {
			continue
		}
		seen[got+1]++
		if needed, _ := impl.NeedsOf(e); got > needed || got >= 0 && got != needed {
			t.Fatalf("%s takes %d, and needs %d", written(p), got, needed)
		}
	}
	if slices.Min(seen[:]) < 3 {
		t.Fatalf("too few: %v", seen)
	}
}

func TestSameShufflesOfText(t *testing.T) {
	for _, x := range []struct {
		p, q []int
		want bool
	}{
		{nil, nil, true}, {nil, words("swap swap"), true}, {words("dup drop"), nil, true}, {words("[ ] dip"), nil, true}, {words("dup [ ] dip drop"), words("[ [ ] dip ] dip"), true}, {words("dup"), words("dup swap"), true}, {words("swap [ dup ] dip"), words("dup [ swap ] dip swap"), true}, {words("swap drop"), words("[ drop ] dip"), true},
		{words("[ drop ] dip drop"), words("drop drop"), true}, {nil, words("drop"), false}, {nil, words("swap"), false}, {words("dup"), nil, false}, {words("dup"), words("[ dup ] dip"), false}, {words("swap"), words("[ swap ] dip"), false}, {words("swap [ swap ] dip swap"), words("[ swap ] dip swap [ swap ] dip"), true}, {words("swap [ swap ] dip"), words("[ swap ] dip swap"), false},
		{drops(5), drops(5), true}, {drops(5), slices.Concat(words("swap"), drops(5)), true}, {drops(5), deep(4, "drop"), false}, {drops(4), drops(5), false},
		// One of them takes more than MaxPlaces values.
		{drops(6), drops(6), false}, {drops(6), drops(5), false}, {drops(5), drops(6), false}, {deep(5, "[ ] dip"), nil, false}, {nil, deep(5, "[ ] dip"), false}, {deep(4, "[ ] dip"), nil, true}, {deep(4, "swap"), deep(4, "swap"), false}, {deep(4, "swap"), deep(3, "swap"), false},
		// One of them leaves more than MaxStack, of MaxPlaces at least.
		{dups(15), dups(15), true}, {dups(16), dups(16), false}, {dups(16), slices.Concat(dups(16), words("swap")), false}, {dups(15), slices.Concat(dups(16), drops(1)), true}, {dups(16), dups(15), false}, {dups(15), dups(16), false}, {dups(16), nil, false}, {nil, dups(16), false}, {dups(19), dups(19), false},
		{slices.Concat(dups(30), drops(30)), nil, true},
	} {
		for _, got := range []bool{impl.SameShuffle(x.p, x.q), impl.SameShuffle(x.q, x.p)} {
			if got != x.want {
				t.Fatalf("%s and %s are the same: %v", written(x.p), written(x.q), got)
			}
		}
	}
}

// Promise 17.
func TestTheSameShufflesLeaveTheSame(t *testing.T) {
	r := rand.New(rand.NewSource(53))
	byPlaces := map[string][][]int{}
	for _, p := range shuffles() {
		places, ok := modelPlaces(p, impl.MaxPlaces)
		if impl.SameShuffle(p, p) != ok {
			t.Fatalf("%s is the same as itself: %v", written(p), !ok)
		}
		if ok {
			text := written(places)
			byPlaces[text] = append(byPlaces[text], p)
		}
	}
	equal, other, told := 0, 0, 0
	stacks := stacksOf(r, impl.MaxPlaces)
	rows := slices.Sorted(maps.Keys(byPlaces))
	for _, first := range rows {
		ps := byPlaces[first]
		for _, second := range rows {
			qs := byPlaces[second]
			p, q := ps[r.Intn(len(ps))], qs[r.Intn(len(qs))]
			want := first == second
			if impl.SameShuffle(p, q) != want || impl.SameShuffle(q, p) != want {
				t.Fatalf("%s and %s are the same: %v", written(p), written(q), !want)
			}
			if !want {
				other++
			}
		}
		for _, q := range ps {
			if !impl.SameShuffle(ps[0], q) || !impl.SameShuffle(q, ps[0]) {
				t.Fatalf("%s and %s are not the same", written(ps[0]), written(q))
			}
			equal++
			for _, s := range stacks {
				left, _, ok := impl.RunOf(ps[0], s)
				right, _, rightOk := impl.RunOf(q, s)
				if ok && rightOk && !sameStack(left, right) {
					t.Fatalf("%s on %q leaves %q, and %s %q", written(ps[0]), stackTexts(s), stackTexts(left), written(q), stackTexts(right))
				}
				if ok && rightOk {
					told++
				}
			}
		}
	}
	if equal < 500 || other < 1000 || told < 2000 {
		t.Fatalf("equal %d, other %d, told %d", equal, other, told)
	}
}

func TestShufflesForRows(t *testing.T) {
	for _, x := range []struct {
		many int
		row  string
		want string
	}{
		{0, "", ""}, {1, "", "drop"}, {2, "", "[ drop ] dip drop"}, {3, "", "[ [ drop ] dip ] dip [ drop ] dip drop"}, {1, "a", ""}, {1, "aa", "dup"}, {1, "aaaaa", "dup dup dup dup"}, {2, "ab", ""}, {5, "abcde", ""},
		{2, "ba", "swap"}, {2, "a", "drop"}, {2, "b", "[ drop ] dip"}, {3, "c", "[ [ drop ] dip ] dip [ drop ] dip"}, {2, "bba", "dup [ swap ] dip swap"}, {2, "aab", "[ dup ] dip"}, {2, "aba", "[ dup ] dip swap"}, {2, "baa", "[ dup ] dip swap [ swap ] dip"}, {2, "bab", "dup [ swap ] dip"}, {2, "abab", "[ dup ] dip dup [ swap ] dip"},
		{3, "cba", "swap [ swap ] dip swap"}, {3, "cab", "swap [ swap ] dip"}, {3, "bca", "[ swap ] dip swap"}, {3, "acb", "swap"}, {3, "bac", "[ swap ] dip"}, {3, "ca", "[ drop ] dip swap"}, {3, "ac", "[ drop ] dip"}, {3, "cc", "[ [ drop ] dip ] dip [ drop ] dip dup"}, {3, "aac", "[ [ dup ] dip ] dip [ drop ] dip"},
		{4, "dcba", "swap [ swap ] dip [ [ swap ] dip ] dip swap [ swap ] dip swap"}, {4, "d", "[ [ [ drop ] dip ] dip ] dip [ [ drop ] dip ] dip [ drop ] dip"}, {5, "e", "[ [ [ [ drop ] dip ] dip ] dip ] dip [ [ [ drop ] dip ] dip ] dip [ [ drop ] dip ] dip [ drop ] dip"},
	} {
		got, ok := impl.ShuffleFor(x.many, placesIn(x.row))
		if !ok || written(got) != x.want {
			t.Fatalf("%s of %d has the shuffle %s, %v, not %s", x.row, x.many, written(got), ok, x.want)
		}
	}
}

// noShuffle checks that a row has no shuffle.
func noShuffle(t *testing.T, many int, places []int) {
	t.Helper()
	if p, ok := impl.ShuffleFor(many, places); ok || p != nil {
		t.Fatalf("%v of %d has the shuffle %s", places, many, written(p))
	}
}

func TestRowsWithoutShuffles(t *testing.T) {
	for _, many := range []int{-maxInt - 1, -5, -1, 6, 7, 60, 1 << 40, maxInt} {
		noShuffle(t, many, nil)
		noShuffle(t, many, []int{0})
		noShuffle(t, many, []int{4, 5})
	}
	for many := range impl.MaxPlaces + 1 {
		for _, places := range [][]int{{-1}, {many}, {many + 1}, {maxInt}, {-maxInt - 1}, {0, -1}, {-1, 0}, {0, many}, {many, 0}, {0, 0, 0, 0, many}, {0, 0, 0, 0, -1}, {0, 0, many, 0, 0}} {
			noShuffle(t, many, places)
		}
		// One place too many, though few words would do.
		noShuffle(t, many, row(many-1, 6))
		noShuffle(t, many, row(0, 6))
		noShuffle(t, many, []int{0, 1, 2, 3, 4, 4})
		noShuffle(t, many, row(0, 1000))
	}
	for _, x := range []struct {
		many  int
		row   string
		words int
	}{
		{4, "caaaa", 60}, {5, "aaaae", 60}, {5, "abaab", 59}, {4, "dcaaa", 61}, {5, "aaaa", 61}, {5, "aaaea", 61}, {5, "eaaa", 59}, {5, "aaaaa", 74},
	} {
		places := placesIn(x.row)
		if p, _ := modelShuffle(x.many, places); len(p) != x.words {
			t.Fatalf("%s of %d has %d words", x.row, x.many, len(p))
		}
		if x.words > impl.MaxWords {
			noShuffle(t, x.many, places)
		} else if p, ok := impl.ShuffleFor(x.many, places); !ok || len(p) != x.words {
			t.Fatalf("%s of %d has the shuffle %s, %v", x.row, x.many, written(p), ok)
		}
	}
}

// Promise 18.
func TestEveryRowHasAShuffle(t *testing.T) {
	told, long := 0, 0
	for many := range impl.MaxPlaces + 1 {
		s := full(many)
		for _, places := range rowsFor(many) {
			want, fits := modelShuffle(many, places)
			if !fits {
				long++
				noShuffle(t, many, places)
				continue
			}
			told++
			p, ok := impl.ShuffleFor(many, places)
			if !ok || !same(p, want) {
				t.Fatalf("%v of %d has the shuffle %s, %v, not %s", places, many, written(p), ok, written(want))
			}
			if got, ok := impl.PlacesOf(p, many); !ok || !same(got, places) || !impl.IsShuffle(p) {
				t.Fatalf("%v of %d has the shuffle %s, which leaves %v, %v", places, many, written(p), got, ok)
			}
			if takes := impl.TakesOf(p); takes < 0 || takes > many {
				t.Fatalf("%v of %d has the shuffle %s, which takes %d", places, many, written(p), takes)
			}
			if !leavesPlaces(t, p, s, places) {
				t.Fatalf("%s on %q is not told", written(p), stackTexts(s))
			}
		}
	}
	if told < 4000 || long < 100 {
		t.Fatalf("told %d, long %d", told, long)
	}
}

func TestPlacesThenOfRows(t *testing.T) {
	for _, x := range []struct {
		a, b, want []int
		ok         bool
	}{
		{nil, nil, nil, true}, {[]int{0}, nil, nil, true}, {row(3, 5), nil, nil, true}, {nil, []int{0}, nil, false}, {nil, []int{-1}, nil, false}, {[]int{}, []int{1, 0}, nil, false},
		{[]int{1, 0, 1}, []int{2, 0}, []int{1, 1}, true}, {[]int{0}, []int{0}, []int{0}, true}, {[]int{4}, []int{0}, []int{4}, true}, {[]int{4}, []int{0, 0, 0}, []int{4, 4, 4}, true}, {[]int{3, 1}, []int{1, 0, 1}, []int{1, 3, 1}, true}, {[]int{2, 4, 1}, []int{1, 2, 0}, []int{4, 1, 2}, true},
		{[]int{4, 3, 2, 1, 0}, []int{4, 3, 2, 1, 0}, []int{0, 1, 2, 3, 4}, true}, {[]int{0, 1, 2, 3, 4}, []int{4, 4, 0, 2, 1}, []int{4, 4, 0, 2, 1}, true}, {[]int{4, 3, 2, 1, 0}, []int{0, 1, 2, 3, 4}, []int{4, 3, 2, 1, 0}, true}, {[]int{9, 8}, row(1, 5), row(8, 5), true},
		{row(0, 5), row(4, 5), row(0, 5), true}, {row(0, 6), row(4, 5), nil, false}, {row(0, 6), nil, nil, false}, {row(0, 5), row(4, 6), nil, false}, {[]int{0}, row(0, 6), nil, false}, {row(0, 1000), []int{0}, nil, false}, {[]int{0}, row(0, 1000), nil, false},
		{[]int{0, 1}, []int{2}, nil, false}, {[]int{0, 1}, []int{-1}, nil, false}, {[]int{0, 1}, []int{0, 1, 2}, nil, false}, {[]int{0, 1}, []int{2, 0}, nil, false}, {[]int{0, 1}, []int{0, -1, 1}, nil, false}, {[]int{0, 1}, []int{maxInt}, nil, false}, {[]int{0, 1}, []int{-maxInt - 1, 0}, nil, false}, {row(0, 5), []int{5}, nil, false}, {row(0, 5), []int{0, 0, 0, 0, 5}, nil, false}, {[]int{5, 5, 5}, []int{3}, nil, false},
		// It is not told of how many values the first row takes its places: any may be taken.
		{[]int{-1}, []int{0}, []int{-1}, true}, {[]int{maxInt, 7}, []int{1, 0}, []int{7, maxInt}, true}, {[]int{-3, 0}, []int{1}, []int{0}, true},
	} {
		if got, ok := impl.PlacesThen(x.a, x.b); ok != x.ok || !same(got, x.want) || !ok && got != nil {
			t.Fatalf("%v and then %v is %v, %v, not %v, %v", x.a, x.b, got, ok, x.want, x.ok)
		}
	}
}

// shufflesFollow checks promise 19 for two rows, and returns whether all fit.
func shufflesFollow(t *testing.T, many int, a, b []int) bool {
	t.Helper()
	c, ok := impl.PlacesThen(a, b)
	if !ok || !same(c, placesAt(a, b)) {
		t.Fatalf("%v and then %v is %v, %v", a, b, c, ok)
	}
	p, pOk := impl.ShuffleFor(many, a)
	q, qOk := impl.ShuffleFor(len(a), b)
	whole, wholeOk := impl.ShuffleFor(many, c)
	behind, ok := impl.ProgThen(p, q)
	if !pOk || !qOk || !wholeOk || !ok {
		return false
	}
	if !impl.SameShuffle(whole, behind) || !impl.SameShuffle(behind, whole) {
		t.Fatalf("%v and then %v, of %d, has the shuffle %s, and both one behind the other %s", a, b, many, written(whole), written(behind))
	}
	if got, ok := impl.PlacesOf(behind, many); !ok || !same(got, c) {
		t.Fatalf("%s of %d leaves %v, %v, not %v", written(behind), many, got, ok, c)
	}
	return true
}

// placesAt returns the places of a row at these places of it.
func placesAt(a, b []int) []int {
	c := []int{}
	for _, place := range b {
		c = append(c, a[place])
	}
	return c
}

// Promise 19.
func TestShufflesFollowEachOther(t *testing.T) {
	all := 0
	for many := range 4 {
		for _, a := range rowsOf(placesIn(letters(many)), 3) {
			for _, b := range rowsOf(placesIn(letters(len(a))), 3) {
				if !shufflesFollow(t, many, a, b) {
					t.Fatalf("%v and then %v, of %d, do not fit", a, b, many)
				}
				all++
			}
		}
	}
	r := rand.New(rand.NewSource(54))
	fit := 0
	for range 5000 {
		many := r.Intn(impl.MaxPlaces + 1)
		a := drawnPlaces(r, many)
		if shufflesFollow(t, many, a, drawnPlaces(r, len(a))) {
			fit++
		}
	}
	if all < 1000 || fit < 2000 || fit == 5000 {
		t.Fatalf("all %d, fit %d", all, fit)
	}
}

func TestShufflesOfOthers(t *testing.T) {
	list := append(badPrograms(), notShuffles()...)
	for _, text := range []string{"dup [", "dup ]", "[ ] dip ]", "[ dup dip", "] dip [", "[ [ ] dip", "[ ] ] dip", "dup ] dip [ drop"} {
		list = append(list, words(text))
	}
	list = append(list, dups(61), drops(61), underOne(dups(58)), deep(20, "dup"), slices.Repeat(words("[ ] dip"), 21), []int{impl.OpDup, 1000}, []int{impl.OpDup, 1014}, []int{-1, impl.OpDrop}, []int{impl.OpOpen, 1000, impl.OpEnd, impl.OpDip})
	for _, p := range list {
		if impl.IsShuffle(p) {
			t.Fatalf("%v is a shuffle", p)
		}
		for _, many := range []int{-maxInt - 1, -1, 0, 1, 2, 3, 4, 5, 6, maxInt} {
			if places, ok := impl.PlacesOf(p, many); ok || places != nil {
				t.Fatalf("%v of %d leaves %v", p, many, places)
			}
		}
		if got := impl.TakesOf(p); got != -1 {
			t.Fatalf("%v takes %d", p, got)
		}
		if impl.SameShuffle(p, p) || impl.SameShuffle(nil, p) || impl.SameShuffle(p, nil) || impl.SameShuffle(p, words("dup")) || impl.SameShuffle(drops(5), p) {
			t.Fatalf("%v is the same as a shuffle", p)
		}
	}
}

func TestStage7ArgumentsAreKept(t *testing.T) {
	for _, p := range slices.Concat(shuffles(), notShuffles(), badPrograms()) {
		kept(t, p, func(p []int) {
			impl.IsShuffle(p)
			impl.TakesOf(p)
			impl.SameShuffle(p, p)
			for many := range impl.MaxPlaces + 1 {
				places, _ := impl.PlacesOf(p, many)
				spoil(places)
			}
		})
	}
	r := rand.New(rand.NewSource(55))
	for range 2000 {
		many := 1 + r.Intn(impl.MaxPlaces)
		a := drawnPlaces(r, many)
		b := drawnPlaces(r, len(a))
		kept(t, a, func(a []int) {
			kept(t, b, func(b []int) {
				p, _ := impl.ShuffleFor(many, a)
				spoil(p)
				c, _ := impl.PlacesThen(a, b)
				spoil(c)
				c, _ = impl.PlacesThen(b, a)
				spoil(c)
			})
		})
	}
}

func TestStage7ResultsShareNothing(t *testing.T) {
	var calls []func() []int
	for _, p := range shuffles() {
		for many := range impl.MaxPlaces + 1 {
			calls = append(calls, func() []int { places, _ := impl.PlacesOf(p, many); return places })
		}
	}
	r := rand.New(rand.NewSource(56))
	for range 500 {
		many := 1 + r.Intn(impl.MaxPlaces)
		a := drawnPlaces(r, many)
		b := drawnPlaces(r, len(a))
		calls = append(calls, func() []int { p, _ := impl.ShuffleFor(many, a); return p }, func() []int { c, _ := impl.PlacesThen(a, b); return c })
	}
	for i, call := range calls {
		first, second := call(), call()
		want := slices.Clone(first)
		spoil(first)
		if !same(second, want) || !same(call(), want) {
			t.Fatalf("results of call %d share memory", i)
		}
	}
}
