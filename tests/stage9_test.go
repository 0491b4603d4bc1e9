package tests

import (
	"math/rand"
	"slices"
	"strconv"
	"strings"
	"testing"

	"loop.example/stackwords/impl"
)

// tower returns a dictionary of MaxNames programs, of which each but the first one is so many times the name before it.
func tower(first string, times int) [][]int {
	d := dict(first)
	for i := 1; i < impl.MaxNames; i++ {
		d = append(d, row(impl.NameFirst+i-1, times))
	}
	return d
}

// empties returns a dictionary of so many programs without words.
func empties(many int) [][]int {
	return slices.Repeat([][]int{{}}, many)
}

// goodDicts returns valid dictionaries, those at the bounds among them.
func goodDicts() [][][]int {
	list := [][][]int{
		nil, {nil}, empties(1), empties(impl.MaxNames - 1), empties(impl.MaxNames),
		dict("dup *", "A A"), dict("1", "2", "A B", "C C"), dict("[ dup ]", "[ A ] dip", "[ [ B ] ]"), dict("dup call", "A A", "[ B ] B"), dict("0", "999", "dup drop swap dip call + - * < if times"),
		dict("", "A", "A B", "A B C", "A B C D", "A B C D E"), dict("1 2 3", "A 4 A", "[ A ] B", "C C", "D", "E 5"),
		{row(7, impl.MaxWords)}, {nest(impl.MaxWords / 2)}, slices.Repeat([][]int{row(impl.OpDup, impl.MaxWords)}, impl.MaxNames), {{1}, row(impl.NameFirst, impl.MaxWords)}, {{1, 2}, row(impl.NameFirst, impl.MaxWords-1), {impl.NameFirst + 1}},
		tower("", 60), tower("1", 60), tower("1", 2), tower("1 2", 2), tower("[ ]", 2), tower("1", 1), tower(repeated(60, "1"), 60), tower("dup *", 1),
	}
	r := rand.New(rand.NewSource(71))
	for range 100 {
		list = append(list, drawnDict(r, 5), drawnDict(r, 20), drawnDict(r, impl.MaxWords))
	}
	return list
}

// badDicts returns dictionaries that are not valid, each for one reason.
func badDicts() [][][]int {
	list := [][][]int{empties(impl.MaxNames + 1), empties(100), append(tower("1", 2), []int{2}), append(tower("1", 2), []int{impl.NameFirst + 5})}
	for before := range impl.MaxNames {
		bad := [][]int{
			row(1, impl.MaxWords+1), row(1, 10*impl.MaxWords), nest(impl.MaxWords/2 + 1), {impl.OpOpen}, {impl.OpEnd}, {impl.OpEnd, impl.OpOpen}, {impl.OpOpen, 1, impl.OpEnd, impl.OpEnd}, {1, impl.OpOpen, impl.OpOpen, impl.OpEnd},
			{-1}, {impl.MaxNum + 1}, {1, 1014, 2}, {impl.NameFirst - 1}, {2000}, {3000}, {maxInt}, {-maxInt - 1}, {1, 2, -5},
		}
		for name := impl.NameFirst + before; name <= impl.NameFirst+impl.MaxNames; name++ { // its own one, and those behind
			bad = append(bad, []int{name}, []int{1, 2, name}, quoted([]int{name}))
		}
		if before > 0 {
			bad = append(bad, row(impl.NameFirst, impl.MaxWords+1), []int{impl.NameFirst, impl.OpEnd}, []int{impl.OpOpen, impl.NameFirst}, []int{impl.NameFirst, impl.NameFirst + before})
		}
		for _, p := range bad {
			d := append(empties(before), p)
			list = append(list, d)
			if before < impl.MaxNames-1 {
				list = append(list, append(slices.Clone(d), []int{1}))
			}
		}
	}
	return list
}

// uses returns programs with names of a valid dictionary, all of one and of two names among them.
func uses(r *rand.Rand, d [][]int) [][]int {
	names := []int{}
	for i := range d {
		names = append(names, impl.NameFirst+i)
	}
	list := rowsOf(names, 2)
	list = append(list, row(1, impl.MaxWords), words("1 2 + 1 2 +"))
	for _, name := range names {
		list = append(list, row(name, impl.MaxWords), quoted([]int{name}), []int{1, name, 2}, slices.Repeat([]int{1, name}, 3))
	}
	for range 5 {
		list = append(list, drawnUses(r, len(d), 5), drawnUses(r, len(d), impl.MaxWords), drawnRepeats(r, len(d), 30), drawnRepeats(r, len(d), impl.MaxWords), drawnKinds(r, len(d), 20))
	}
	return list
}

// noUse checks that nothing is told of a program by a dictionary.
func noUse(t *testing.T, d [][]int, p []int) {
	t.Helper()
	if impl.UsesOk(d, p) {
		t.Fatalf("%s is a program by %s", namedText(p), dictText(d))
	}
	if means, ok := impl.MeansOf(d, p); ok || means != nil {
		t.Fatalf("%s by %s means %v", namedText(p), dictText(d), means)
	}
	if often := impl.NamesOf(d, p); often != nil {
		t.Fatalf("%s by %s has names: %v", namedText(p), dictText(d), often)
	}
	if twice, ok := impl.TwiceOf(d, p); ok || twice != nil {
		t.Fatalf("%s by %s has %v twice", namedText(p), dictText(d), twice)
	}
	noGive(t, d, p)
	noPut(t, d, p)
	noNameEffect(t, d, p)
}

func noGive(t *testing.T, d [][]int, p []int) {
	t.Helper()
	if e, q, ok := impl.GiveName(d, p); ok || e != nil || q != nil {
		t.Fatalf("%s by %s becomes %s by %s", namedText(p), dictText(d), namedText(q), dictText(e))
	}
}

func noPut(t *testing.T, d [][]int, p []int) {
	t.Helper()
	if e, q, ok := impl.PutBack(d, p); ok || e != nil || q != nil {
		t.Fatalf("%s by %s becomes %s by %s", namedText(p), dictText(d), namedText(q), dictText(e))
	}
}

func noNameEffect(t *testing.T, d [][]int, p []int) {
	t.Helper()
	if e, ok := impl.NameEffect(d, p); ok || !noEffect(e) {
		t.Fatalf("%s by %s has the effect %v", namedText(p), dictText(d), e)
	}
}

func TestDictionariesThatAreValid(t *testing.T) {
	for _, d := range goodDicts() {
		if !impl.DictValid(d) || !modelDictValid(d) {
			t.Fatalf("%s is not valid", dictText(d))
		}
	}
}

func TestDictionariesThatAreNone(t *testing.T) {
	for _, d := range badDicts() {
		if impl.DictValid(d) || modelDictValid(d) {
			t.Fatalf("%s is valid", dictText(d))
		}
		for _, text := range []string{"", "1", "1 2 1 2", "A", "A 1 A 1", "[ ]", "["} {
			noUse(t, d, named(text))
		}
	}
}

func TestSmallDictionaries(t *testing.T) {
	rows := rowsOf(named("1 [ ] A B C"), 2)
	var seen [2]int
	for _, p := range rows {
		for _, q := range rows {
			d := [][]int{p, q}
			want := modelDictValid(d)
			if impl.DictValid(d) != want {
				t.Fatalf("%s is valid: %v", dictText(d), !want)
			}
			if want {
				seen[1]++
			} else {
				seen[0]++
			}
		}
	}
	if seen[0] < 1000 || seen[1] < 20 {
		t.Fatalf("too few: %v", seen)
	}
}

// Promise 59.
func TestDictionariesLoseTheirLastProgram(t *testing.T) {
	if !impl.DictValid(nil) || !impl.DictValid([][]int{}) {
		t.Fatal("the one without programs is not valid")
	}
	for _, d := range goodDicts() {
		for many := range d {
			if !impl.DictValid(d[:many]) {
				t.Fatalf("%s is not valid", dictText(d[:many]))
			}
		}
	}
}

func TestNamesThatMayBeUsed(t *testing.T) {
	for many := range impl.MaxNames + 2 {
		d := empties(many)
		for w := impl.NameFirst - 3; w < impl.NameFirst+impl.MaxNames+3; w++ {
			want := many <= impl.MaxNames && w >= impl.NameFirst && w < impl.NameFirst+many
			for _, p := range [][]int{{w}, {1, w}, {w, w}, quoted([]int{w}), row(w, impl.MaxWords), append(row(1, impl.MaxWords-1), w)} {
				if impl.UsesOk(d, p) != want {
					t.Fatalf("%s is a program by %d names: %v", namedText(p), many, !want)
				}
			}
			noUse(t, d, row(w, impl.MaxWords+1))
			noUse(t, d, []int{w, impl.OpEnd})
			noUse(t, d, []int{impl.OpOpen, w})
			noUse(t, d, []int{impl.OpEnd, w, impl.OpOpen})
		}
	}
}

// Promise 60.
func TestProgramsNeedNoNames(t *testing.T) {
	list := programs()
	for i, d := range goodDicts() {
		for j, p := range list {
			if (i+j)%10 == 0 && !impl.UsesOk(d, p) {
				t.Fatalf("%s is no program by %s", written(p), dictText(d))
			}
		}
		for i := range d {
			if !impl.UsesOk(d, []int{impl.NameFirst + i}) {
				t.Fatalf("the name %d is no program by %s", i, dictText(d))
			}
		}
	}
	r := rand.New(rand.NewSource(72))
	for _, d := range goodDicts() {
		for _, p := range uses(r, d) {
			if !impl.UsesOk(d, p) || !modelUsesOk(d, p) {
				t.Fatalf("%s is no program by %s", namedText(p), dictText(d))
			}
		}
	}
}

func TestProgramsThatAreNone(t *testing.T) {
	list := append(badPrograms(), named("1 2 1 2 ["), named("1 2 ] 1 2"), row(1, 61), slices.Repeat([]int{1, 2}, 31), []int{1, 1000, 1, 1000}, []int{-1, 1, -1, 1}, []int{1, 1107, 1, 1107}, []int{1, 1100, 1, 1100}, []int{maxInt, 1, maxInt, 1})
	bad := 0
	for _, d := range goodDicts() {
		for _, p := range list {
			if !modelUsesFirst(len(d), p) {
				bad++
				noUse(t, d, p)
			}
		}
		noUse(t, d, []int{impl.NameFirst + len(d)})
		noUse(t, d, []int{1, impl.NameFirst + len(d), 1, impl.NameFirst + len(d)})
	}
	if bad < 5000 {
		t.Fatalf("only %d are none", bad)
	}
}

func TestMeaningsOfText(t *testing.T) {
	for _, x := range []struct {
		d          [][]int
		text, want string
	}{
		{nil, "", ""}, {nil, "1 dup +", "1 dup +"}, {nil, "[ [ ] ]", "[ [ ] ]"}, {dict("2"), "1 dup", "1 dup"}, {dict("2"), "A", "2"}, {dict("2"), "A A 1 A", "2 2 1 2"}, {dict("dup *", "A A"), "3 B", "3 dup * dup *"}, {dict("1", "2"), "B A B", "2 1 2"},
		// Names in brackets, and brackets in programs.
		{dict("dup *"), "[ A ]", "[ dup * ]"}, {dict("dup *"), "A [ A [ A ] ] A", "dup * [ dup * [ dup * ] ] dup *"}, {dict("[ dup ]"), "A dip A", "[ dup ] dip [ dup ]"}, {dict("[ dup ]", "[ A ]"), "[ B ]", "[ [ [ dup ] ] ]"}, {dict("1 2"), "[ ] A [ ]", "[ ] 1 2 [ ]"},
		// Names of names.
		{dict("1", "A 2", "B 3", "C 4", "D 5", "E 6"), "F", "1 2 3 4 5 6"}, {dict("1", "A 2", "B 3", "C 4", "D 5", "E 6"), "F A E B", "1 2 3 4 5 6 1 1 2 3 4 5 1 2"}, {dict("1", "2 A", "3 B A", "C B"), "D C A", "3 2 1 1 2 1 3 2 1 1 1"}, {dict("1", "A", "B", "C", "D", "E"), "F E D", "1 1 1"}, {dict("1", "2", "B A"), "C", "2 1"}, {dict("1", "A A", "B B", "C C"), "D", "1 1 1 1 1 1 1 1"},
		// Names that mean no words.
		{dict(""), "A", ""}, {dict(""), "1 A 2 A", "1 2"}, {dict("", "A A"), "B [ A B ] B", "[ ]"}, {dict("", "1 A 2", "A B A"), "C A C", "1 2 1 2"}, {empties(6), "A B C D E F", ""}, {empties(6), "7", "7"},
	} {
		if means, ok := impl.MeansOf(x.d, named(x.text)); !ok || !same(means, words(x.want)) {
			t.Fatalf("%s by %s means %s, %v, not %s", x.text, dictText(x.d), namedText(means), ok, x.want)
		}
	}
}

func TestLongMeanings(t *testing.T) {
	thirty := repeated(30, "1")
	for _, x := range []struct {
		d    [][]int
		text string
		want int // the number of words, or -1 if nothing is told
	}{
		{dict(thirty), "A A", 60}, {dict(thirty), "A A 1", -1}, {dict(thirty), "1 A A", -1}, {dict(thirty), "[ A A ]", -1}, {dict(thirty), repeated(30, "1") + "A", 60}, {dict(thirty), repeated(31, "1") + "A", -1}, {dict(thirty), "A " + repeated(31, "1"), -1}, {dict(repeated(60, "1")), "A", 60}, {dict(repeated(60, "1")), "A A", -1}, {dict(repeated(60, "1")), "A 1", -1}, {dict(repeated(60, "1")), "1", 1}, {dict("1 1"), repeated(30, "A"), 60}, {dict("1 1"), repeated(31, "A"), -1}, {dict("1"), repeated(60, "A"), 60}, {dict("1 1"), repeated(60, "A"), -1},
		{dict("[ ]"), repeated(30, "A"), 60}, {dict("[ ]"), repeated(31, "A"), -1}, {dict(thirty, "[ A ]"), "A B", -1}, {dict(thirty, "[ A ]"), "B " + repeated(28, "1"), 60},
		// A name in it means too much, though itself it has few words; and one that is not in it does not matter.
		{dict(thirty, "A A", "B"), "C", 60}, {dict(thirty, "A A 1", "B"), "C", -1}, {dict(thirty, "A A 1", "B"), "[ C ]", -1}, {dict(thirty, "A A 1", "B"), "A", 30}, {dict(thirty, "A A 1", "B"), "A A", 60}, {dict(thirty, "A A 1", "B", "7"), "D A", 31}, {dict(thirty, "A A 1", "", "7 C"), "D C", 1}, {dict(thirty, "A A 1", "", "7 C"), "D B", -1}, {dict(thirty, "A A A", "B B"), "", 0},
		{tower("1", 2), "F", 32}, {tower("1", 2), "F E D", 56}, {tower("1", 2), "F E D C", 60}, {tower("1", 2), "F E D C A", -1}, {tower("1", 2), "F F", -1}, {tower("1 2", 2), "F", -1}, {tower("1 2", 2), "E", 32}, {tower("1", 3), "D", 27}, {tower("1", 3), "E", -1}, {tower("1", 3), "D D B B", 60}, {tower("1", 3), "D D B B A", -1},
		{tower("1", 60), "F", -1}, {tower("1", 60), "C", -1}, {tower("1", 60), "B", 60}, {tower("1", 60), "B A", -1}, {tower("1", 60), repeated(60, "A"), 60}, {tower("1", 60), repeated(60, "F"), -1}, {tower(repeated(60, "1"), 60), repeated(60, "F"), -1}, {tower(repeated(60, "1"), 60), "A", 60}, {tower(repeated(60, "1"), 60), "5", 1},
		// Names that mean no words, behind and ahead of many words.
		{tower("", 60), repeated(60, "F"), 0}, {tower("", 60), "1 F 2", 2}, {dict(thirty, ""), "A A " + repeated(58, "B"), 60}, {dict(thirty, ""), repeated(58, "B") + "A A", 60}, {dict(thirty, ""), "A A 1 " + repeated(57, "B"), -1}, {dict(thirty, ""), repeated(57, "B") + "A A 1", -1}, {dict("", thirty), repeated(58, "A") + "B B", 60}, {dict("", thirty), repeated(57, "A") + "B B 1", -1}, {dict("1 1", ""), repeated(30, "A B"), 60}, {dict("1 1", "", repeated(30, "A B")), "C " + repeated(59, "B"), 60}, {dict("1 1", "", repeated(30, "A B")), repeated(58, "B") + "C 1", -1},
	} {
		p := named(x.text)
		means, ok := impl.MeansOf(x.d, p)
		if ok != (x.want >= 0) || len(means) != max(x.want, 0) || !ok && means != nil {
			t.Fatalf("%s by %s means %s, %v", x.text, dictText(x.d), namedText(means), ok)
		}
		if want, wantOk := modelMeans(x.d, p); ok != wantOk || !same(means, want) {
			t.Fatalf("%s by %s means %s, not %s", x.text, dictText(x.d), namedText(means), namedText(want))
		}
		e, typed := impl.NameEffect(x.d, p)
		if want, wantOk := modelNameEffect(x.d, p); typed != wantOk || !sameEffect(e, want) || typed && !ok {
			t.Fatalf("%s by %s has the effect %v, not %v", x.text, dictText(x.d), e, want)
		}
	}
}

// meansSame checks that two programs, each by its dictionary, mean the same, or that nothing is told of both, and returns whether it is told.
func meansSame(t *testing.T, d [][]int, p []int, e [][]int, q []int) bool {
	t.Helper()
	want, wantOk := impl.MeansOf(d, p)
	got, ok := impl.MeansOf(e, q)
	if ok != wantOk || !same(got, want) {
		t.Fatalf("%s by %s means %s, %v, and %s by %s means %s, %v", namedText(p), dictText(d), namedText(want), wantOk, namedText(q), dictText(e), namedText(got), ok)
	}
	return ok
}

// Promise 23.
func TestNamesMeanTheirPrograms(t *testing.T) {
	r := rand.New(rand.NewSource(73))
	told, long, both := 0, 0, 0
	for _, d := range goodDicts() {
		for i, q := range d {
			meansSame(t, d, []int{impl.NameFirst + i}, d, q)
		}
		list := uses(r, d)
		for _, p := range list {
			want, wantOk := modelMeans(d, p)
			means, ok := impl.MeansOf(d, p)
			if ok != wantOk || !same(means, want) {
				t.Fatalf("%s by %s means %s, %v, not %s, %v", namedText(p), dictText(d), namedText(means), ok, namedText(want), wantOk)
			}
			if !ok {
				long++
				continue
			}
			told++
			again, ok := impl.MeansOf(d, means)
			if !ok || !impl.ProgValid(means) || !same(again, means) {
				t.Fatalf("%s by %s means %s, and this %s", namedText(p), dictText(d), namedText(means), namedText(again))
			}
			q := list[r.Intn(len(list))]
			behind, qOk := impl.MeansOf(d, q)
			if all, ok := impl.MeansOf(d, slices.Concat(p, q)); ok {
				if both++; !qOk || !same(all, slices.Concat(means, behind)) {
					t.Fatalf("%s and then %s by %s mean %s", namedText(p), namedText(q), dictText(d), namedText(all))
				}
			}
		}
	}
	if told < 5000 || long < 1000 || both < 2000 {
		t.Fatalf("told %d, long %d, both %d", told, long, both)
	}
}

func TestNamesOfText(t *testing.T) {
	for _, x := range []struct {
		d    [][]int
		text string
		want []int
	}{
		{nil, "", nil}, {nil, "1 2 [ ]", nil}, {dict("1"), "", []int{0}}, {dict("1"), "A", []int{1}}, {dict("1"), "A 3 A", []int{2}}, {dict("1"), "3", []int{0}}, {dict("1", "2", "3"), "C A C", []int{1, 0, 2}}, {dict("1", "2", "3"), "[ B [ B ] ] C B", []int{0, 3, 1}}, {dict("", ""), "A B B", []int{1, 2}},
		// Those that stand in programs of the dictionary alone.
		{dict("1", "A A"), "B", []int{0, 1}}, {dict("1", "A A"), "B A B", []int{1, 2}}, {dict("1", "A", "A B", "C C C"), "D", []int{0, 0, 0, 1}}, {dict("1", "A A", "[ B A ]"), "5", []int{0, 0, 0}},
		// What is meant is too long.
		{tower("1", 60), "F E F", []int{0, 0, 0, 0, 1, 2}}, {tower("1", 60), repeated(60, "F"), []int{0, 0, 0, 0, 0, 60}}, {dict("1", "2"), repeated(30, "B A"), []int{30, 30}},
	} {
		if often := impl.NamesOf(x.d, named(x.text)); !same(often, x.want) {
			t.Fatalf("%s by %s has names: %v, not %v", x.text, dictText(x.d), often, x.want)
		}
	}
}

// Promise 61.
func TestNamesAreCounted(t *testing.T) {
	r := rand.New(rand.NewSource(74))
	for _, d := range goodDicts() {
		for _, p := range uses(r, d) {
			often := impl.NamesOf(d, p)
			if !same(often, modelNames(d, p)) || len(often) != len(d) {
				t.Fatalf("%s by %s has names: %v", namedText(p), dictText(d), often)
			}
			all, names := 0, 0
			for _, n := range often {
				all += n
			}
			for _, w := range p {
				if w >= impl.NameFirst {
					names++
				}
			}
			if all != names {
				t.Fatalf("%s by %s has %d names: %v", namedText(p), dictText(d), names, often)
			}
		}
	}
}

// twiceTexts has programs with names of two programs, the words that stand twice, and the program with C in their place; both are none if there are no such words.
var twiceTexts = [][3]string{
	{"", none, none}, {"1", none, none}, {"1 1", none, none}, {"1 2", none, none}, {"1 2 3", none, none}, {"1 2 1", none, none}, {"1 2 2 1", none, none}, {"1 2 3 2 1", none, none}, {"1 2 3 1 3 2 1", none, none}, {"[ ]", none, none}, {"A", none, none}, {"A A A", none, none},
	{"1 2 1 2", "1 2", "C C"}, {"1 2 7 1 2", "1 2", "C 7 C"}, {"5 1 2 6 1 2 7", "1 2", "5 C 6 C 7"}, {"1 2 3 1 2 3", "1 2 3", "C C"}, {"1 dup * 2 + dup * 2 +", "dup * 2 +", "1 C C"}, {"1 2 3 8 2 3 9 1 2 3", "1 2 3", "C 8 2 3 9 C"}, {"2 3 8 1 2 3 9 1 2 3", "1 2 3", "2 3 8 C 9 C"},
	// The same words three times, four times, and more.
	{"1 2 1 2 1 2", "1 2", "C C C"}, {"1 2 7 1 2 8 1 2", "1 2", "C 7 C 8 C"}, {"1 2 1 2 1 2 1 2", "1 2 1 2", "C C"}, {"1 2 1 2 1 2 1 2 1 2", "1 2 1 2", "C C 1 2"}, {"1 2 7 1 2 8 1 2 9 1 2", "1 2", "C 7 C 8 C 9 C"}, {"1 2 3 1 2 3 1 2 3", "1 2 3", "C C C"}, {"7 1 2 3 1 2 3 1 2 3", "1 2 3", "7 C C C"},
	{"1 1 1", none, none}, {"1 1 1 1", "1 1", "C C"}, {"1 1 1 1 1", "1 1", "C C 1"}, {"1 1 1 1 1 1", "1 1 1", "C C"}, {"1 1 1 1 1 1 1", "1 1 1", "C C 1"}, {"1 1 1 7 1 1", "1 1", "C 1 7 C"}, {"1 1 7 1 1 1 1 1", "1 1", "C 7 C C 1"},
	// Rows that would lie one over another one.
	{"1 2 1 2 1", "1 2", "C C 1"}, {"2 1 2 1 2", "2 1", "C C 2"}, {"1 2 3 1 2 3 1 2", "1 2 3", "C C 1 2"}, {"1 2 1 7 1 2 1 2 1", "1 2 1", "C 7 C 2 1"}, {"1 2 1 2 1 7 1 2 1", "1 2 1", "C 2 1 7 C"}, {"1 1 2 1 1", "1 1", "C 2 C"}, {"1 2 1 2 1 2 1", "1 2 1", "C 2 C"}, {"1 2 1 2 7", "1 2", "C C 7"}, {"1 2 3 4 1 2 3 4 1 2 3", "1 2 3 4", "C C 1 2 3"}, {"1 2 1 2 1 8 9 8 9", "1 2", "C C 1 8 9 8 9"},
	// Rows that are as long as each other.
	{"1 2 7 3 4 8 3 4 9 1 2", "1 2", "C 7 3 4 8 3 4 9 C"}, {"3 4 7 1 2 8 1 2 9 3 4", "3 4", "C 7 1 2 8 1 2 9 C"}, {"1 2 7 3 4 8 1 2 9 3 4", "1 2", "C 7 3 4 8 C 9 3 4"}, {"2 1 7 1 2 8 2 1 9 1 2", "2 1", "C 7 1 2 8 C 9 1 2"}, {"1 2 3 7 2 3 1 8 2 3 1 9 1 2 3", "1 2 3", "C 7 2 3 1 8 2 3 1 9 C"}, {"4 1 2 4 1 2 4", "4 1 2", "C C 4"}, {"6 5 6 5 7 8 7 8", "6 5", "C C 7 8 7 8"},
	// The longer one, and not the one that stands first or more often.
	{"1 2 1 2 1 2 7 3 4 5 8 3 4 5", "3 4 5", "1 2 1 2 1 2 7 C 8 C"}, {"3 4 5 8 3 4 5 1 2 1 2 1 2", "3 4 5", "C 8 C 1 2 1 2 1 2"}, {"1 2 3 4 7 1 2 3 8 1 2 9 1 2", "1 2 3", "C 4 7 C 8 1 2 9 1 2"},
	// Rows with brackets, and in brackets.
	{"[ ] [ ]", "[ ]", "C C"}, {"[ [ ] [ ] ]", "[ ]", "[ C C ]"}, {"[ [ ] ] [ ]", "[ ]", "[ C ] C"}, {"[ ] [ ] [ ] [ ]", "[ ] [ ]", "C C"}, {"[ 1 ] dip [ 1 ] dip", "[ 1 ] dip", "C C"}, {"[ 1 2 ] [ 1 2 ]", "[ 1 2 ]", "C C"}, {"[ 1 2 ] 3 1 2", "1 2", "[ C ] 3 C"}, {"1 2 [ [ 1 2 ] ]", "1 2", "C [ [ C ] ]"}, {"[ 1 [ 2 ] ] 3 [ 1 [ 2 ] ]", "[ 1 [ 2 ] ]", "C 3 C"}, {"1 [ 2 ] 3 7 1 [ 2 ] 3", "1 [ 2 ] 3", "C 7 C"}, {"[ 1 [ 2 ] 7 1 [ 2 ] ]", "1 [ 2 ]", "[ C 7 C ]"}, {"[ dup ] dip [ [ dup ] dip ] dip", "[ dup ] dip", "C [ C ] dip"}, {"[ 5 5 5 5 ] 1", "5 5", "[ C C ] 1"},
	// Rows whose brackets do not fit stand twice.
	{"[ 1 2 ] [ 1 2 3 ]", "1 2", "[ C ] [ C 3 ]"}, {"[ 3 1 2 ] [ 1 2 ]", "1 2", "[ 3 C ] [ C ]"}, {"1 [ 1 [ ] ]", none, none}, {"[ [ 1 ] 2 ] 2", none, none}, {"[ 1 ] [ 2 ] [ 3 ]", none, none}, {"[ 1 ] 5 [ 2 ] 5 [ 3 ]", none, none}, {"[ [ [ ] ] ]", none, none}, {"[ 1 ] [ 1 ] [ 1 ]", "[ 1 ]", "C C C"}, {"[ 5 6 ] 7 [ 8 6 ] 7 [ 8 9 ]", none, none}, {"[ 5 6 ] 7 8 [ 6 ] 7 8", "7 8", "[ 5 6 ] C [ 6 ] C"}, {"[ 1 ] [ 2 ] [ 2 ] [ 3 ]", "[ 2 ]", "[ 1 ] C C [ 3 ]"}, {"1 2 3 [ 1 2 3 [ ] ]", "1 2 3", "C [ C [ ] ]"},
	// Rows with names.
	{"A 1 A 1", "A 1", "C C"}, {"A A A A", "A A", "C C"}, {"A B 1 B A 2 A B", "A B", "C 1 B A 2 C"}, {"1 A A 2 1 A A", "1 A A", "C 2 C"}, {"[ A ] B [ A ] B", "[ A ] B", "C C"}, {"[ B ] A [ B ]", "[ B ]", "C A C"}, {"A 1 B 1 A 2 B 2", none, none},
}

const none = "none"

func TestWordsThatStandTwice(t *testing.T) {
	d := dict("1 2", "A [ A ]")
	for _, x := range twiceTexts {
		p := named(x[0])
		twice, ok := impl.TwiceOf(d, p)
		want, wantOk := modelTwice(p)
		if ok != wantOk || ok != (x[1] != none) || ok && (!same(twice, want) || !same(twice, named(x[1]))) || !ok && twice != nil {
			t.Fatalf("%s has %s twice, %v, not %s", x[0], namedText(twice), ok, x[1])
		}
	}
}

func TestLongRowsThatStandTwice(t *testing.T) {
	half := numbersFrom(100, 30)
	for _, x := range []struct {
		p    []int
		want []int
	}{
		{slices.Concat(half, half), half}, {slices.Concat(half[:29], []int{7}, half[:29], []int{8}), half[:29]}, {slices.Concat([]int{7}, half[1:], []int{8}, half[1:]), half[1:]}, {row(5, 60), row(5, 30)}, {row(5, 59), row(5, 29)}, {slices.Concat(numbersFrom(1, 56), named("1 2 3 4")), named("1 2 3 4")}, {numbersFrom(1, 60), nil}, {slices.Concat(numbersFrom(1, 59), []int{1}), nil}, {slices.Concat(numbersFrom(1, 58), []int{57, 58}), []int{57, 58}}, {slices.Concat(numbersFrom(1, 58), []int{1, 2}), []int{1, 2}},
		{nest(30), nil}, {slices.Concat(nest(15), nest(15)), nest(15)}, {slices.Concat(nest(14), nest(16)), nest(14)}, {slices.Repeat(nest(1), 30), slices.Repeat(nest(1), 15)}, {quoted(row(5, 58)), row(5, 29)}, {slices.Concat(quoted(half[:13]), quoted(half[:13]), quoted(half[:13])), quoted(half[:13])},
	} {
		twice, ok := impl.TwiceOf(nil, x.p)
		if ok != (x.want != nil) || !same(twice, x.want) {
			t.Fatalf("%s has %s twice, %v", written(x.p), written(twice), ok)
		}
		if want, wantOk := modelTwice(x.p); wantOk != ok || !same(want, x.want) {
			t.Fatalf("%s has %s twice", written(x.p), written(want))
		}
	}
}

// numbersFrom returns so many numbers one after the other.
func numbersFrom(first, many int) []int {
	p := []int{}
	for i := range many {
		p = append(p, first+i)
	}
	return p
}

// repeating returns programs with names of so many programs: all small ones of few kinds of words, and drawn ones.
func repeating(r *rand.Rand, names int) [][]int {
	kinds := words("1 [ ]")
	if names > 0 {
		kinds = append(kinds, impl.NameFirst)
	}
	var list [][]int
	for _, p := range slices.Concat(rowsOf(kinds, 6), rowsOf(words("1 2"), 9)) {
		if fits(p) {
			list = append(list, p)
		}
	}
	for range 300 {
		list = append(list, drawnRepeats(r, names, 25), drawnRepeats(r, names, impl.MaxWords), drawnKinds(r, names, 12), drawnKinds(r, names, impl.MaxWords), drawnUses(r, names, impl.MaxWords))
	}
	return list
}

// Promise 62.
func TestWhatStandsTwiceFitsTwice(t *testing.T) {
	r := rand.New(rand.NewSource(75))
	there, missing := 0, 0
	for _, d := range [][][]int{nil, dict("1"), dict("dup *", "A A"), tower("1", 2), tower("1", 60)} {
		for _, p := range repeating(r, len(d)) {
			want, wantOk := modelTwice(p)
			twice, ok := impl.TwiceOf(d, p)
			if ok != wantOk || ok && !same(twice, want) || !ok && twice != nil {
				t.Fatalf("%s has %s twice, %v, not %s, %v", namedText(p), namedText(twice), ok, namedText(want), wantOk)
			}
			if !ok {
				missing++
				continue
			}
			there++
			if !impl.UsesOk(d, twice) || len(twice) < 2 || 2*len(twice) > len(p) || strings.Count(asLetters(p), asLetters(twice)) < 2 {
				t.Fatalf("%s has %s twice", namedText(p), namedText(twice))
			}
		}
	}
	if there < 5000 || missing < 500 {
		t.Fatalf("there %d, missing %d", there, missing)
	}
}

func TestNamesThatAreGiven(t *testing.T) {
	d := dict("1 2", "A [ A ]")
	for _, x := range twiceTexts {
		p := named(x[0])
		if x[1] == none {
			noGive(t, d, p)
			continue
		}
		e, q, ok := impl.GiveName(d, p)
		if want := dict("1 2", "A [ A ]", x[1]); !ok || !sameDict(e, want) || !same(q, named(x[2])) {
			t.Fatalf("%s becomes %s by %s, %v, not %s", x[0], namedText(q), dictText(e), ok, x[2])
		}
	}
}

func TestNamesOfFullDictionaries(t *testing.T) {
	p := named("1 2 7 1 2 8 1 2")
	for many := range impl.MaxNames + 2 {
		d := empties(many)
		if many >= impl.MaxNames {
			noGive(t, d, p)
			continue
		}
		name := impl.NameFirst + many
		e, q, ok := impl.GiveName(d, p)
		if !ok || len(e) != many+1 || !sameDict(e[:many], d) || !same(e[many], []int{1, 2}) || !same(q, []int{name, 7, name, 8, name}) {
			t.Fatalf("%s by %d names becomes %s by %s, %v", namedText(p), many, namedText(q), dictText(e), ok)
		}
	}
	noGive(t, tower("1", 2), named("A B A B"))
	noGive(t, tower("1", 2), named("1"))
	noGive(t, tower("1", 2)[:5], named("A B"))
	if e, q, ok := impl.GiveName(tower("1", 60)[:5], named("E D E D 1 E D")); !ok || !sameDict(e, append(tower("1", 60)[:5], named("E D"))) || !same(q, named("F F 1 F")) {
		t.Fatalf("it becomes %s by %s, %v", namedText(q), dictText(e), ok)
	}
}

// Promise 24.
func TestNamedWordsMeanTheSame(t *testing.T) {
	r := rand.New(rand.NewSource(76))
	given, told, full := 0, 0, 0
	dicts := append(goodDicts(), slices.Repeat([][][]int{nil, dict("1"), dict("", "A A")}, 50)...)
	for _, d := range dicts {
		for range 10 {
			for _, p := range [][]int{drawnRepeats(r, len(d), 20), drawnRepeats(r, len(d), impl.MaxWords), drawnKinds(r, len(d), impl.MaxWords)} {
				want, q, wantOk := modelGive(d, p)
				e, short, ok := impl.GiveName(d, p)
				if ok != wantOk || !sameDict(e, want) || !same(short, q) {
					t.Fatalf("%s by %s becomes %s by %s, not %s by %s", namedText(p), dictText(d), namedText(short), dictText(e), namedText(q), dictText(want))
				}
				if !ok {
					if _, there := modelTwice(p); there {
						full++
					}
					continue
				}
				given++
				if !impl.DictValid(e) || !impl.UsesOk(e, short) || len(short) >= len(p) {
					t.Fatalf("%s by %s becomes %s by %s", namedText(p), dictText(d), namedText(short), dictText(e))
				}
				if meansSame(t, d, p, e, short) {
					told++
				}
				if back, old, ok := impl.PutBack(e, short); !ok || !sameDict(back, d) || !same(old, p) {
					t.Fatalf("%s by %s becomes %s by %s again, %v", namedText(p), dictText(d), namedText(old), dictText(back), ok)
				}
			}
		}
	}
	if given < 3000 || told < 1500 || full < 300 {
		t.Fatalf("given %d, told %d, full %d", given, told, full)
	}
}

// A name is given again and again, until there are no words more that stand twice, or no names.
func TestNamesGivenAgainAndAgain(t *testing.T) {
	for _, x := range []struct {
		text  string
		d     [][]int
		short string
	}{
		{"1 2 1 2 1 2 1 2 1 2 1 2 1 2 1 2", dict("1 2 1 2 1 2 1 2"), "A A"}, {repeated(60, "1"), dict(repeated(30, "1")), "A A"}, {"1 2 3 1 2 4 1 2 3", dict("1 2 3"), "A 1 2 4 A"}, {"1 2 5 1 2 6 1 2 5 1 2 7 1 2", dict("1 2 5 1 2"), "A 6 A 7 1 2"}, {"1 2 3 7 1 2 3 8 1 2 9 1 2", dict("1 2 3", "1 2"), "A 7 A 8 B 9 B"}, {"1 2 3 4 1 2 3 4 1 2 7 3 4 1 2 7 3 4", dict("3 4 1 2 7", "1 2", "3 4"), "B C B A A C"}, {"1 2 8 1 2 9 3 4 8 3 4 9 5 6 8 5 6 9 7 0 8 7 0", dict("1 2", "3 4", "5 6", "7 0"), "A 8 A 9 B 8 B 9 C 8 C 9 D 8 D"}, {"1 2 100 1 2 101 3 4 102 3 4 103 5 6 104 5 6 105 7 8 106 7 8 107 9 10 108 9 10 109 11 12 110 11 12 111 13 14 112 13 14", dict("1 2", "3 4", "5 6", "7 8", "9 10", "11 12"), "A 100 A 101 B 102 B 103 C 104 C 105 D 106 D 107 E 108 E 109 F 110 F 111 13 14 112 13 14"},
	} {
		d, p := [][]int(nil), named(x.text)
		for range impl.MaxNames + 1 {
			if e, q, ok := impl.GiveName(d, p); ok {
				meansSame(t, d, p, e, q)
				d, p = e, q
			}
		}
		if !sameDict(d, x.d) || !same(p, named(x.short)) {
			t.Fatalf("%s becomes %s by %s, not %s", x.text, namedText(p), dictText(d), x.short)
		}
	}
}

func TestNamesThatArePutBack(t *testing.T) {
	for _, x := range []struct {
		d          [][]int
		text, want string
	}{
		{dict("1 2"), "A", "1 2"}, {dict("1 2"), "A 3 A", "1 2 3 1 2"}, {dict("1 2"), "[ A [ A ] ]", "[ 1 2 [ 1 2 ] ]"}, {dict("[ dup ]"), "A dip A", "[ dup ] dip [ dup ]"}, {dict("1", "2"), "B A B", "2 A 2"}, {dict("1", "A A"), "B 2 B", "A A 2 A A"}, {dict("1", "A", "B"), "C B A", "B B A"}, {dict("1", "A A", "B [ A ]"), "C C", "B [ A ] B [ A ]"}, {tower("1", 2), "F E F", "E E E E E"},
		// A name that is not used.
		{dict("1"), "", ""}, {dict("1"), "2 3", "2 3"}, {dict("1", "2"), "A A", "A A"}, {dict("1", "A A"), "[ A ] 3", "[ A ] 3"}, {tower("1", 60), "E D E", "E D E"},
		// A last program without words.
		{dict(""), "A", ""}, {dict(""), "1 A 2", "1 2"}, {dict("1", ""), "B A B A", "A A"}, {dict("1", ""), "[ B ]", "[ ]"}, {dict(""), repeated(60, "A"), ""}, {empties(6), "F E", "E"},
		// Exactly as many words as fit.
		{dict("1 2"), repeated(30, "A"), repeated(30, "1 2")}, {dict(repeated(60, "1")), "A", repeated(60, "1")}, {dict(repeated(31, "1")), repeated(29, "2") + "A", repeated(29, "2") + repeated(31, "1")}, {dict("1"), repeated(60, "A"), repeated(60, "1")}, {tower("1", 30), "F F", repeated(60, "E")}, {tower("1", 60), "F", repeated(60, "E")}, {dict(repeated(60, "1")), repeated(60, "2"), repeated(60, "2")}, {dict("[ ]"), repeated(30, "A"), repeated(30, "[ ]")}, {dict("1 2 3"), repeated(57, "2") + "A", repeated(57, "2") + "1 2 3"},
	} {
		e, q, ok := impl.PutBack(x.d, named(x.text))
		if !ok || !sameDict(e, x.d[:len(x.d)-1]) || !same(q, named(x.want)) {
			t.Fatalf("%s by %s becomes %s by %s, %v, not %s", x.text, dictText(x.d), namedText(q), dictText(e), ok, x.want)
		}
	}
	for _, x := range []struct {
		d    [][]int
		text string
	}{
		{nil, ""}, {nil, "1"}, {nil, "1 2 1 2"}, {dict("1 2"), repeated(30, "A") + "1"}, {dict("1 2"), repeated(31, "A")}, {dict("1 2"), "3 " + repeated(30, "A")}, {dict(repeated(60, "1")), "A A"}, {dict(repeated(60, "1")), "A 1"}, {dict(repeated(60, "1")), "1 A"}, {dict(repeated(31, "1")), repeated(30, "2") + "A"}, {dict("1 2 3"), repeated(58, "2") + "A"}, {dict("1 2"), repeated(59, "1") + "A"}, {dict("1 2"), repeated(60, "A")}, {tower("1", 60), "F E"}, {tower("1", 60), repeated(60, "F")}, {dict("[ ]"), "[ " + repeated(30, "A") + "]"},
	} {
		noPut(t, x.d, named(x.text))
	}
}

// Promise 25.
func TestNamesThatArePutBackMeanTheSame(t *testing.T) {
	r := rand.New(rand.NewSource(77))
	put, told, long := 0, 0, 0
	for _, d := range goodDicts() {
		for _, p := range uses(r, d) {
			want, q, wantOk := modelPut(d, p)
			e, old, ok := impl.PutBack(d, p)
			if ok != wantOk || !sameDict(e, want) || ok && !same(old, q) || !ok && old != nil {
				t.Fatalf("%s by %s becomes %s by %s, not %s by %s", namedText(p), dictText(d), namedText(old), dictText(e), namedText(q), dictText(want))
			}
			if !ok {
				long++
				continue
			}
			put++
			if !impl.DictValid(e) || !impl.UsesOk(e, old) {
				t.Fatalf("%s by %s becomes %s by %s", namedText(p), dictText(d), namedText(old), dictText(e))
			}
			if meansSame(t, d, p, e, old) {
				told++
			}
		}
	}
	if put < 5000 || told < 3000 || long < 500 {
		t.Fatalf("put %d, told %d, long %d", put, told, long)
	}
}

// anyTypes writes a row of so many values of any types.
func anyTypes(many int) string {
	text := "r0"
	for i := range many {
		text += " t" + strconv.Itoa(i)
	}
	return text
}

func TestEffectsOfNames(t *testing.T) {
	for _, x := range []struct {
		d          [][]int
		text, want string
	}{
		{nil, "", nothing}, {nil, "dup +", "r0 n -> r0 n"}, {dict("dup *"), "A", "r0 n -> r0 n"}, {dict("dup *", "A A"), "B", "r0 n -> r0 n"}, {dict("dup *"), "[ A ]", "r0 -> r0 (r1 n -> r1 n)"}, {dict("dup *"), "3 A", "r0 -> r0 n"}, {dict("drop", "A A", "B B"), "C", "r0 t0 t1 t2 t3 -> r0"}, {dict("swap"), "[ A ] dip A", "r0 t0 t1 t2 -> r0 t1 t2 t0"}, {dict("", "A"), "B A B", nothing}, {dict("[ 1 ]", "A dup"), "< B if", "r0 n n -> r0 n"},
		// Names that are not used do not matter, nor that a name alone has no effect.
		{dict("dup call"), "1", "r0 -> r0 n"}, {dict("1 call", "2"), "B", "r0 -> r0 n"}, {dict(repeated(50, "drop")), repeated(10, "1") + "A", anyTypes(40) + " -> r0"}, {dict(repeated(60, "drop"), "1"), "B", "r0 -> r0 n"}, {tower("dup drop", 60), "A", "r0 t0 -> r0 t0"},
	} {
		if e, ok := impl.NameEffect(x.d, named(x.text)); !ok || impl.EffectText(e) != x.want {
			t.Fatalf("%s by %s has the effect %s, %v, not %s", x.text, dictText(x.d), impl.EffectText(e), ok, x.want)
		}
	}
	for _, x := range []struct {
		d    [][]int
		text string
	}{
		{nil, "dup call"}, {dict("dup call"), "A"}, {dict("dup call"), "[ A ]"}, {dict("dup call"), "1 [ A ] drop"}, {dict("call"), "1 A"}, {dict("1", "call"), "A B"}, {dict("dup", "A call"), "B"}, {dict("[ ]"), "A +"}, {dict("[ 1 ]", "[ 2 3 ]"), "A B if"},
		{tower("dup drop", 60), "C"}, {tower("dup drop", 2), "F"}, {tower("1", 60), "F"}, {dict(repeated(30, "dup drop")), "A 1"}, {dict(repeated(30, "dup drop"), "A A"), "B"}, {dict(repeated(50, "drop")), "A"},
	} {
		noNameEffect(t, x.d, named(x.text))
	}
}

// Promise 26.
func TestNamesHaveTheEffectsOfTheirPrograms(t *testing.T) {
	r := rand.New(rand.NewSource(78))
	told, both := 0, 0
	for range 3000 {
		d := [][]int{}
		for range 1 + r.Intn(impl.MaxNames) {
			d = append(d, drawnPhrases(r, len(d), 3))
		}
		p := drawnPhrases(r, len(d), 6)
		e, eOk := impl.NameEffect(d, p)
		if want, wantOk := modelNameEffect(d, p); eOk != wantOk || !sameEffect(e, want) {
			t.Fatalf("%s by %s has the effect %s, not %s", namedText(p), dictText(d), impl.EffectText(e), impl.EffectText(want))
		}
		if eOk {
			told++
		}
		for i := range d {
			name := []int{impl.NameFirst + i}
			f, fOk := impl.NameEffect(d, name)
			if g, gOk := impl.NameEffect(d, d[i]); fOk != gOk || !sameEffect(f, g) {
				t.Fatalf("%s by %s has another effect than its name", namedText(d[i]), dictText(d))
			}
			whole, wholeOk := impl.NameEffect(d, slices.Concat(p, name))
			if then, thenOk := impl.EffectThen(e, f); eOk && fOk && wholeOk && thenOk {
				if both++; !sameEffect(whole, then) {
					t.Fatalf("%s and then the name %d by %s has the effect %s, not %s", namedText(p), i, dictText(d), impl.EffectText(whole), impl.EffectText(then))
				}
			}
		}
	}
	if told < 1000 || both < 2000 {
		t.Fatalf("told %d, both %d", told, both)
	}
}

func TestStage9ArgumentsAreKept(t *testing.T) {
	r := rand.New(rand.NewSource(79))
	for _, d := range append(goodDicts(), badDicts()...) {
		list := [][]int{nil, {1}, {impl.NameFirst}, {1, 2, 1, 2}}
		if impl.DictValid(d) {
			list = append(list, uses(r, d)...)
		}
		for _, p := range list {
			keptStack(t, d, func(d [][]int) {
				kept(t, p, func(p []int) {
					impl.DictValid(d)
					impl.UsesOk(d, p)
					means, _ := impl.MeansOf(d, p)
					spoil(means)
					spoil(impl.NamesOf(d, p))
					twice, _ := impl.TwiceOf(d, p)
					spoil(twice)
					e, q, _ := impl.GiveName(d, p)
					spoilStack(e)
					spoil(q)
					e, q, _ = impl.PutBack(d, p)
					spoilStack(e)
					spoil(q)
					f, _ := impl.NameEffect(d, p)
					spoil(f.In)
					spoil(f.Out)
				})
			})
		}
	}
}

// rowsAlone checks that no two rows share memory.
func rowsAlone(t *testing.T, rows ...[]int) {
	t.Helper()
	was := [][]int{}
	for _, p := range rows {
		was = append(was, slices.Clone(p))
	}
	for i, p := range rows {
		spoil(p)
		if !sameDict(rows[i+1:], was[i+1:]) {
			t.Fatalf("rows of %s share memory", dictText(was))
		}
	}
}

func TestStage9ResultsShareNothing(t *testing.T) {
	r := rand.New(rand.NewSource(80))
	for _, d := range goodDicts() {
		for i, p := range uses(r, d) {
			if i%4 > 0 {
				continue
			}
			results := func() [][]int {
				means, _ := impl.MeansOf(d, p)
				twice, _ := impl.TwiceOf(d, p)
				e, q, _ := impl.GiveName(d, p)
				f, old, _ := impl.PutBack(d, p)
				g, _ := impl.NameEffect(d, p)
				return slices.Concat([][]int{means, impl.NamesOf(d, p), twice, q, old, g.In, g.Out}, e, f)
			}
			first, second := results(), results()
			want := dictText(first)
			rowsAlone(t, slices.Concat(first, second)...)
			if got := dictText(results()); got != want {
				t.Fatalf("results of %s by %s share memory", namedText(p), dictText(d))
			}
		}
	}
}
