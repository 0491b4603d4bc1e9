package tests

import (
	"math/rand"
	"slices"
	"strconv"
	"strings"
	"testing"

	"loop.example/stackwords/impl"
)

// nothing is the text of the effect that changes nothing.
const nothing = "r0 -> r0"

// wordEffects are the texts of the effects that words have, and of some programs in brackets.
var wordEffects = []string{
	nothing, "r0 -> r0 n", "r0 t0 -> r0 t0 t0", "r0 t0 -> r0", "r0 t0 t1 -> r0 t1 t0", "r0 t0 (r0 -> r1) -> r1 t0", "r0 (r0 -> r1) -> r1",
	"r0 n n -> r0 n", "r0 n (r0 -> r1) (r0 -> r1) -> r1", "r0 n (r0 -> r0) -> r0",
	"r0 -> r0 (r1 -> r1)", "r0 -> r0 (r1 n -> r1 n)", "r0 -> r0 (r1 t0 -> r1 t0 t0)", "r0 -> r0 (r1 (r1 -> r2) -> r2)", "r0 -> r0 (r1 -> r1 (r2 n -> r2))",
}

// smallRows returns all rows of at most so many numbers whose letters have these numbers, as RowOk says how they are made.
func smallRows(most int, numbers []int) [][]int {
	var rows, types [][]int
	for _, n := range numbers {
		rows = append(rows, []int{impl.RowAny, n})
		types = append(types, []int{impl.TyAny, n})
	}
	types = append(types, []int{impl.TyNum})
	for range most { // each time round all that are one number longer are there
		seen := map[string]bool{}
		var more, progs [][]int
		add := func(list *[][]int, row []int) {
			if text := written(row); len(row) <= most && !seen[text] {
				seen[text] = true
				*list = append(*list, row)
			}
		}
		for _, row := range rows {
			add(&more, row)
			for _, value := range types {
				add(&more, slices.Concat([]int{impl.RowPut}, row, value))
			}
		}
		for _, value := range types {
			add(&progs, value)
		}
		for _, needed := range rows {
			for _, left := range rows {
				add(&progs, slices.Concat([]int{impl.TyProg}, needed, left))
			}
		}
		if len(more) == len(rows) && len(progs) == len(types) {
			break
		}
		rows, types = more, progs
	}
	return rows
}

// smallEffects returns all effects whose rows have at most 6 numbers.
func smallEffects() []impl.Effect {
	var list []impl.Effect
	rows := smallRows(6, []int{0, 1})
	for _, in := range rows {
		for _, out := range rows {
			if e := (impl.Effect{In: in, Out: out}); sameEffect(e, inOrder(e)) {
				list = append(list, e)
			}
		}
	}
	return list
}

func sameEffect(e, f impl.Effect) bool {
	return same(e.In, f.In) && same(e.Out, f.Out)
}

func noEffect(e impl.Effect) bool {
	return len(e.In) == 0 && len(e.Out) == 0
}

// numbers returns a row with its letter r0 at the bottom, and so many numbers: 2 more numbers than twice as many.
func numbers(many int) []int {
	return slices.Concat(row(impl.RowPut, many), []int{impl.RowAny, 0}, row(impl.TyNum, many))
}

// texts writes the numbers of a row of values behind a letter.
func texts(letter string, many int) string {
	return letter + strings.Repeat(" n", many)
}

// goodEffects returns effects: those of words, some behind others, drawn ones, and those at the bounds.
func goodEffects() []impl.Effect {
	var list []impl.Effect
	for _, text := range wordEffects {
		list = append(list, effect(text))
	}
	for _, text := range []string{
		"r0 -> r1", "r0 t0 -> r1 t1", "r0 n -> r1 t0 t0", "r0 t0 t0 -> r0", "r0 t0 t1 -> r0", "r0 (r0 (r1 t0 -> r1) -> r2 t0) -> r3 (r3 -> r4 t1)", "r0 (r1 -> r1) -> r1",
		texts("r0", 74) + " -> r0", "r0 -> " + texts("r0", 74), texts("r0", 74) + " -> " + texts("r1", 74), texts("r0", 72) + " t0 -> " + texts("r0", 71) + " t0 t1",
	} {
		list = append(list, effect(text))
	}
	r := rand.New(rand.NewSource(11))
	for range 150 {
		e := drawnEffect(r)
		list = append(list, e, special(r, e), wordsEffect(r, 6))
	}
	return list
}

// wordsEffect returns what some effects of words, drawn one behind the other, are together.
func wordsEffect(r *rand.Rand, most int) impl.Effect {
	e := effect(nothing)
	for range r.Intn(most + 1) {
		if more, ok := modelThen(e, effect(wordEffects[r.Intn(len(wordEffects))])); ok {
			e = more
		}
	}
	return e
}

// badRows returns what is no row.
func badRows() [][]int {
	return [][]int{
		nil, {}, {3}, {3, -1}, {3, 1000}, {3, maxInt}, {3, -maxInt - 1}, {0}, {1, 0}, {2, 3, 0, 3, 0}, {4}, {4, 3}, {4, 3, 0}, {4, 0}, {4, 0, 0}, {4, 1, 0, 0}, {4, 3, 0, 3, 0}, {4, 3, 0, 4, 3, 0, 0},
		{3, 0, 0}, {3, 0, 3, 0}, {4, 3, 0, 0, 0}, {5, 0}, {-1}, {-1, 0}, {6}, {maxInt}, {-maxInt - 1},
		{4, 3, 0, 1}, {4, 3, 0, 1, -1}, {4, 3, 0, 1, 1000}, {4, 3, 0, 5}, {4, 3, 0, -1}, {4, 3, 0, 2}, {4, 3, 0, 2, 3, 0}, {4, 3, 0, 2, 3, 0, 0}, {4, 3, 0, 2, 3, 0, 1, 0}, {4, 3, 0, 2, 0, 3, 0}, {4, 3, 0, 2, 3, 0, 3, 1000}, {4, 3, 0, 2, 3, 0, 3, 0, 0},
		slices.Concat(rowIn(texts("r0", 72)), []int{0}), numbers(75), rowIn(texts("r0", 72) + " t0 t0 t0"), rowIn(texts("r0", 73) + " t0"), numbers(10000), row(4, 150), row(4, 1000000), row(3, 150),
	}
}

// badEffects returns effects that are none.
func badEffects() []impl.Effect {
	list := []impl.Effect{{}}
	for _, bad := range badRows() {
		list = append(list, impl.Effect{In: bad, Out: []int{3, 0}}, impl.Effect{In: []int{3, 0}, Out: bad}, impl.Effect{In: bad, Out: bad})
	}
	for _, text := range []string{
		"r1 -> r1", "r1 -> r0", "r0 -> r2", "r999 -> r999", "r0 t1 -> r0 t1", "r0 t1 t0 -> r0", "r0 t0 -> r0 t2", "r0 -> r0 t1", "r0 t0 t2 -> r0 t1",
		"r0 (r2 -> r1) -> r0", "r1 (r0 -> r0) -> r0", "r0 (r0 -> r2) -> r1", "r0 (r1 t1 -> r1) -> r0 t0", "r0 -> r0 (r1 -> r3)", "r0 -> r1 (r2 t1 -> r0)", "r0 t0 (r1 -> r1 t2) -> r0 t1",
	} {
		list = append(list, effect(text))
	}
	return list
}

func TestRowsOfFewNumbers(t *testing.T) {
	good := map[string]bool{}
	for _, r := range smallRows(7, []int{0, 1, 2, 3, 4, 999}) {
		good[written(r)] = true
	}
	told := 0
	for _, r := range rowsOf([]int{0, 1, 2, 3, 4, 999, 1000}, 7) {
		want := good[written(r)]
		if got := impl.RowOk(r); got != want {
			t.Fatalf("RowOk of %v: %v", r, got)
		}
		if want {
			told++
		}
	}
	if told < 100 {
		t.Fatalf("only %d rows", told)
	}
}

func TestRowBounds(t *testing.T) {
	for n := -20; n < 2000; n++ {
		want := 0 <= n && n <= 999
		if impl.RowOk([]int{impl.RowAny, n}) != want || impl.RowOk([]int{impl.RowPut, impl.RowAny, 0, impl.TyAny, n}) != want {
			t.Fatalf("letters with the number %d", n)
		}
	}
	for _, text := range []string{texts("r0", 74), texts("r9", 71) + " t5 t5", "r7 (" + texts("r3", 34) + " -> " + texts("r4", 33) + " t9) n", "r0" + strings.Repeat(" (r1 -> r2)", 21) + " (r1 -> r1)"} {
		r := rowIn(text)
		if len(r) > 150 || !impl.RowOk(r) {
			t.Fatalf("%s has %d numbers", text, len(r))
		}
		for len(r) <= 160 {
			if impl.RowOk(r) != (len(r) <= 150) {
				t.Fatalf("RowOk of %d numbers", len(r))
			}
			r = slices.Concat([]int{impl.RowPut}, r, []int{impl.TyNum})
		}
	}
	if !impl.RowOk(numbers(74)) || len(numbers(74)) != 150 || impl.RowOk(rowIn(texts("r0", 73)+" t0")) || len(rowIn(texts("r0", 73)+" t0")) != 151 {
		t.Fatal("150 numbers are a row, 151 are none")
	}
	deep := []int{impl.RowAny, 1}
	for len(deep) <= 143 {
		deep = slices.Concat([]int{impl.RowPut, impl.RowAny, 1, impl.TyProg}, deep, []int{impl.RowAny, 1})
	}
	if !impl.RowOk(deep) || len(deep) < 144 {
		t.Fatal("rows in types in rows")
	}
	for _, r := range badRows() {
		if impl.RowOk(r) {
			t.Fatalf("%v is no row", r)
		}
	}
}

// Promise 44.
func TestRowsCanHaveOneValueMore(t *testing.T) {
	list := smallRows(7, []int{0, 999})
	for _, e := range goodEffects() {
		list = append(list, e.In, e.Out)
	}
	for _, r := range list {
		if !impl.RowOk(r) {
			t.Fatalf("%v is a row", r)
		}
		more := slices.Concat([]int{impl.RowPut}, r, []int{impl.TyNum})
		if got := impl.RowOk(more); got != (len(more) <= 150) {
			t.Fatalf("RowOk of %v: %v", more, got)
		}
	}
}

func TestEffectsAreNamedInOrder(t *testing.T) {
	rows := smallRows(5, []int{0, 1, 2})
	for _, in := range rows {
		for _, out := range rows {
			e := impl.Effect{In: in, Out: out}
			if got := impl.EffectOk(e); got != sameEffect(e, inOrder(e)) {
				t.Fatalf("EffectOk of %s: %v", modelText(e), got)
			}
		}
	}
	r := rand.New(rand.NewSource(12))
	for range 2000 {
		e := impl.Effect{In: drawnRow(r, 2, 1), Out: drawnRow(r, 2, 1)}
		if got := impl.EffectOk(e); got != sameEffect(e, inOrder(e)) {
			t.Fatalf("EffectOk of %s: %v", modelText(e), got)
		}
	}
}

func TestEffectBounds(t *testing.T) {
	for _, e := range goodEffects() {
		if !impl.EffectOk(e) {
			t.Fatalf("%s is an effect", modelText(e))
		}
	}
	for _, e := range badEffects() {
		if impl.EffectOk(e) {
			t.Fatalf("%v is no effect", e)
		}
	}
	many := impl.Effect{In: rowIn("r0 t0 t1 t2 t3 t4 t5 t6 t7 t8 t9 t10 t11 t12 t13 t14 t15"), Out: rowIn("r1 t16 t15 t17")}
	if !impl.EffectOk(many) || impl.EffectText(many) != modelText(many) {
		t.Fatal("many letters", impl.EffectText(many))
	}
}

// Promise 45.
func TestWhatNeedsAllAndLeavesAllIsAnEffect(t *testing.T) {
	if !impl.EffectOk(impl.Effect{In: []int{impl.RowAny, 0}, Out: []int{impl.RowAny, 0}}) {
		t.Fatal("the one that changes nothing")
	}
	for _, e := range append(goodEffects(), smallEffects()...) {
		if !impl.EffectOk(e) || !impl.EffectOk(impl.Effect{In: e.In, Out: e.In}) {
			t.Fatalf("what needs and leaves what %s needs", modelText(e))
		}
	}
}

func TestEffectsOneBehindTheOther(t *testing.T) {
	for _, c := range [][3]string{ // "" for effects that cannot follow each other
		{nothing, nothing, nothing},
		{"r0 -> r0 n", "r0 n -> r0", nothing},
		{"r0 n -> r0", "r0 -> r0 n", "r0 n -> r0 n"},
		{"r0 -> r0 n n n", "r0 n -> r0", "r0 -> r0 n n"},
		{"r0 -> r0 n", "r0 n n n -> r0", "r0 n n -> r0"},
		{"r0 t0 -> r0", "r0 t0 t1 -> r0 t1 t0", "r0 t0 t1 t2 -> r0 t1 t0"},
		{"r0 t0 t1 -> r0 t1 t0", "r0 t0 t1 -> r0 t1 t0", "r0 t0 t1 -> r0 t0 t1"},
		{"r0 t0 t1 -> r0 t1 t0", "r0 n t0 -> r0 t0", "r0 t0 n -> r0 t0"},
		{"r0 t0 -> r0 t0 t0", "r0 n n -> r0 n", "r0 n -> r0 n"},
		{"r0 n n -> r0 n", "r0 n n -> r0 n", "r0 n n n -> r0 n"},
		{"r0 t0 -> r0 t0 t0", "r0 t0 -> r0 t0 t0", "r0 t0 -> r0 t0 t0 t0"},
		{"r0 -> r0 (r1 -> r1 n)", "r0 (r0 -> r1) -> r1", "r0 -> r0 n"},
		{"r0 -> r0 (r1 n n -> r1 n)", "r0 (r0 -> r1) -> r1", "r0 n n -> r0 n"},
		{"r0 -> r0 (r1 n n -> r1 n)", "r0 t0 (r0 -> r1) -> r1 t0", "r0 n n t0 -> r0 n t0"},
		{"r0 (r0 -> r1) -> r1", "r0 n n -> r0 n", "r0 (r0 -> r1 n n) -> r1 n"},
		{"r0 (r0 -> r1) -> r1", "r0 (r0 -> r1) -> r1", "r0 (r0 -> r1 (r1 -> r2)) -> r2"},
		{"r0 -> r1", "r0 -> r1", "r0 -> r1"},
		{"r0 -> r1 n", "r0 n -> r1", "r0 -> r1"},
		{"r0 -> r1 t0", "r0 n -> r0 n", "r0 -> r1 n"},
		{"r0 -> r0 t0", "r0 t0 -> r1 t0 t1", "r0 -> r1 t0 t1"},
		{"r0 t0 t1 -> r0 t0 t1", "r0 t0 t0 -> r0 t0", "r0 t0 t0 -> r0 t0"},
		{"r0 t0 -> r0 t0 n", "r0 t0 t0 -> r0 t0", "r0 n -> r0 n"},
		{"r0 t0 (r1 -> r2 t1) -> r2 t1", "r0 n -> r0", "r0 t0 (r1 -> r2 n) -> r2"},
		// what a word takes is not there
		{"r0 -> r0 n", "r0 (r0 -> r1) -> r1", ""},
		{"r0 -> r0 (r1 -> r1)", "r0 n -> r0", ""},
		{"r0 -> r0 n (r1 -> r1)", "r0 (r1 -> r1) n -> r0", ""},
		{"r0 -> r0 t0 t0", "r0 n (r1 -> r1) -> r0", ""},
		{"r0 -> r0 (r1 n -> r1)", "r0 (r1 (r2 -> r2) -> r1) -> r0", ""},
		// a letter would stand for something that has it
		{"r0 t0 -> r0 t0 t0", "r0 (r0 -> r1) -> r1", ""},
		{"r0 -> r0 (r0 -> r0)", "r0 (r0 n -> r0) -> r0", ""},
		{"r0 -> r0 (r1 -> r1)", "r0 (r1 -> r1 n) -> r0", ""},
		{"r0 -> r0 (r1 -> r1)", "r0 (r1 -> r1 t0) -> r0 t0", ""},
		{"r0 -> r0 t0 t0", "r0 t0 (r0 -> r0 t0) -> r0", ""},
		{"r0 -> r0 t0 t1 t0 t1", "r0 t0 t1 (r0 -> r0 t1) (r0 -> r0 t0) -> r0", ""},
		{"r0 -> r1 t0 t1 t2", "r0 t0 (r0 t0 -> r0) (r1 -> r1 t0) -> r0 t0", "r0 -> r1 t0"},
		{"r0 t0 -> r0 (r1 -> r0 t0) (r2 t0 -> r2)", "r0 t0 t0 -> r0", "r0 t0 -> r0"},
		{"r0 t0 -> r0 (r0 -> r0 t0) (r0 t0 -> r0)", "r0 t0 t0 -> r0", ""},
	} {
		e, ok := impl.EffectThen(effect(c[0]), effect(c[1]))
		if c[2] == "" && (ok || !noEffect(e)) {
			t.Fatalf("%s, and then %s: %s", c[0], c[1], modelText(e))
		}
		if c[2] != "" && (!ok || modelText(e) != c[2]) {
			t.Fatalf("%s, and then %s: %v, %v, not %s", c[0], c[1], e, ok, c[2])
		}
	}
}

// Of every two effects their numbers show what is behind the other one, and how long it becomes.
func TestEffectsAreThoseOfRows(t *testing.T) {
	check := func(e, f impl.Effect) bool {
		want, wantOk := modelThen(e, f)
		got, ok := impl.EffectThen(e, f)
		if ok != wantOk || !sameEffect(got, want) || ok && !impl.EffectOk(got) || !ok && !noEffect(got) {
			t.Fatalf("%s, and then %s: %v, %v", modelText(e), modelText(f), got, ok)
		}
		if got := impl.MoreGeneral(e, f); got != modelGeneral(e, f) {
			t.Fatalf("%s is more general than %s: %v", modelText(e), modelText(f), got)
		}
		return ok
	}
	list := goodEffects()
	told, all := 0, 0
	for i, e := range list {
		for j := i % 4; j < len(list); j += 4 {
			if all++; check(e, list[j]) {
				told++
			}
		}
	}
	small := smallEffects()
	for i, e := range small {
		for j := i % 7; j < len(small); j += 7 {
			check(e, small[j])
		}
	}
	if told < all/5 || told > all*4/5 {
		t.Fatalf("%d of %d", told, all)
	}
}

func TestEffectsThatBecomeLong(t *testing.T) {
	for many := 30; many <= 45; many++ {
		want := 2+2*(30+many) <= 150
		needs := effect(texts("r0", 30) + " -> r0")
		e, ok := impl.EffectThen(needs, effect(texts("r0", many)+" -> r0"))
		if ok != want || ok && modelText(e) != texts("r0", 30+many)+" -> r0" || !ok && !noEffect(e) {
			t.Fatalf("30 numbers are needed, and then %d: %v, %v", many, e, ok)
		}
		e, ok = impl.EffectThen(effect("r0 -> "+texts("r0", many)), effect("r0 -> "+texts("r0", 30)))
		if ok != want || ok && modelText(e) != "r0 -> "+texts("r0", 30+many) || !ok && !noEffect(e) {
			t.Fatalf("%d numbers are left, and then 30: %v, %v", many, e, ok)
		}
	}
	for values, want := range map[string]bool{" n n n": true, " n n t0": false, " t0 t0": true, " t0 t0 n": false} { // 150, 151, 150 and 152 numbers
		e, ok := impl.EffectThen(effect(texts("r0", 40)+" -> r0"), effect(texts("r0", 31)+values+" -> r0"))
		if got := impl.RowOk(rowIn(texts("r0", 31) + values + texts("", 40))); got != want || ok != want || ok && len(e.In) != 150 {
			t.Fatalf("40 numbers are needed, and then 31 and%s: %v, %v, %v", values, got, e, ok)
		}
	}
}

// What is counted are the rows in the end: before t0 and t1 become numbers, In has 152.
func TestLettersThatBecomeShort(t *testing.T) {
	checkLong(t, "r0 t0 t1 -> r0 t1 t0", texts("r0", 74)+" -> r0", true, texts("r0", 74)+" -> r0")
	checkLong(t, texts("r0", 74)+" -> r1 t0 t1", "r0 n n -> "+texts("r0", 74), true, texts("r0", 74)+" -> "+texts("r1", 74))
	checkLong(t, "r0 t0 t1 -> r0 t1", texts("r0", 73)+" -> r0", false, "") // but here t0 is left
}

// A letter may be replaced by too much, though it stands in nothing that is left.
func TestLettersThatBecomeLong(t *testing.T) {
	for many := 60; many <= 66; many++ {
		for end, with := range map[string]int{"": 0, " t0": 3} {
			long := "(r1 -> " + texts("r1", many) + end + ")" // of 5 numbers, 2 for each n, and those of the end
			head := "(r0 -> r0 t0 n n n)"                     // of 12 numbers besides those that t0 stands for
			want := 12+5+2*many+with <= 150
			checkLong(t, "r0 -> r0 t0 "+head, "r0 "+long+" t1 -> r0", want, nothing)
			checkLong(t, "r0 -> r0 t1 "+long, "r0 "+head+" t0 -> r0", want, nothing)
		}
	}
	for many := 30; many <= 45; many++ {
		first := "r0 -> r0 (r1 -> " + texts("r1", 37) + ") (r2 -> r3)" // r3 becomes what is 37 numbers, and then many, above r1
		second := "r0 (r1 -> r2) (r2 -> " + texts("r2", many) + ") -> r0"
		checkLong(t, first, second, many <= 37, nothing)
	}
}

func checkLong(t *testing.T, first, second string, want bool, text string) {
	t.Helper()
	e, f := inOrder(effect(first)), inOrder(effect(second))
	if !impl.EffectOk(e) || !impl.EffectOk(f) {
		t.Fatalf("%s, %s", first, second)
	}
	got, ok := impl.EffectThen(e, f)
	if ok != want || ok && modelText(got) != text || !ok && !noEffect(got) {
		t.Fatalf("%s, and then %s: %v, %v", first, second, got, ok)
	}
}

// What one leaves and the other needs is together longer than a row, but neither a letter nor the result is.
func TestOnlyWhatIsNeededIsCounted(t *testing.T) {
	long := "(r1 -> " + texts("r1", 40) + ")"
	checkLong(t, "r0 t0 -> r0 t0 t0 t0 t0", "r0 "+long+" t0 t0 t1 -> r0", true, "r0 "+long+" -> r0")
	checkLong(t, "r0 t0 -> r0 t0 t0 t0 t0", "r0 "+long+" t0 t0 t1 -> r0 t1", true, "r0 "+long+" -> r0 (r1 -> "+texts("r1", 40)+")")
	checkLong(t, "r0 t0 -> r0 t0 t0 t0 t0", "r0 "+long+" t0 t0 t1 -> r0 t1 t1", false, "")
	checkLong(t, "r0 t0 -> r0 t0 t0 t0 t0", "r0 "+long+" t0 t0 t1 -> r0 (r1 t0 -> r1 t1)", false, "")
}

// Each row is more than twice as long as the next one: this has to end soon all the same.
func TestLettersThatBecomeTwiceAsLong(t *testing.T) {
	for levels := 1; levels <= 12; levels++ {
		first, second := "r0 -> r0", "r0"
		for n := range levels {
			lower, upper := "r"+strconv.Itoa(n+1), "r"+strconv.Itoa(n+2)
			first += " (" + lower + " -> " + lower + ")"
			second += " (" + lower + " -> r0 (" + upper + " -> " + upper + "))"
		}
		want := 6<<levels-4 <= 150
		checkLong(t, first, second+" -> r0", want, nothing)
	}
}

func TestWhatIsNoEffectIsNotPutTogether(t *testing.T) {
	good := goodEffects()
	for i, bad := range badEffects() {
		for _, e := range []impl.Effect{bad, good[i%len(good)], effect(nothing)} {
			if got, ok := impl.EffectThen(e, bad); ok || !noEffect(got) {
				t.Fatalf("%v, and then %v: %v, %v", e, bad, got, ok)
			}
			if got, ok := impl.EffectThen(bad, e); ok || !noEffect(got) {
				t.Fatalf("%v, and then %v: %v, %v", bad, e, got, ok)
			}
			if impl.MoreGeneral(e, bad) || impl.MoreGeneral(bad, e) {
				t.Fatalf("%v and %v", e, bad)
			}
		}
		if text := impl.EffectText(bad); text != "" {
			t.Fatalf("the text of %v: %q", bad, text)
		}
		if n, m := impl.NeedsOf(bad); n != -1 || m != -1 {
			t.Fatalf("%v needs %d and leaves %d", bad, n, m)
		}
	}
}

// Promise 5.
func TestEffectsFollowEachOther(t *testing.T) {
	r := rand.New(rand.NewSource(13))
	list := goodEffects()
	drawn := func() impl.Effect {
		if r.Intn(2) == 0 {
			return effect(wordEffects[r.Intn(len(wordEffects))])
		}
		return list[r.Intn(len(list))]
	}
	told := 0
	for range 20000 {
		a, b, c := drawn(), drawn(), drawn()
		ab, okAB := impl.EffectThen(a, b)
		bc, okBC := impl.EffectThen(b, c)
		if !okAB || !okBC {
			continue
		}
		left, okLeft := impl.EffectThen(ab, c)
		right, okRight := impl.EffectThen(a, bc)
		if !okLeft || !okRight {
			continue
		}
		if told++; !sameEffect(left, right) {
			t.Fatalf("%s, %s, %s: %s or %s", modelText(a), modelText(b), modelText(c), modelText(left), modelText(right))
		}
	}
	if told < 3000 {
		t.Fatalf("only %d are told", told)
	}
}

// Promise 5, its second part.
func TestWhatChangesNothingOnBothSides(t *testing.T) {
	id := effect(nothing)
	for _, e := range append(goodEffects(), smallEffects()...) {
		before, okBefore := impl.EffectThen(id, e)
		behind, okBehind := impl.EffectThen(e, id)
		if !okBefore || !okBehind || !sameEffect(before, e) || !sameEffect(behind, e) {
			t.Fatalf("%s: %v, %v, %v, %v", modelText(e), before, okBefore, behind, okBehind)
		}
	}
}

func TestMoreGeneralEffects(t *testing.T) {
	for _, c := range []struct {
		general, special   string
		is, theOtherWayToo bool
	}{
		{nothing, "r0 n -> r0 n", true, false},
		{nothing, "r0 t0 t1 -> r0 t0 t1", true, false},
		{nothing, "r0 (r0 -> r1) -> r0 (r0 -> r1)", true, false},
		{nothing, "r0 -> r1", false, true},
		{nothing, "r0 n -> r0", false, false},
		{nothing, "r0 -> r0 n", false, false},
		{"r0 -> r1", "r0 n n -> r0 (r1 -> r2)", true, false},
		{"r0 t0 -> r0 t0 t0", "r0 n -> r0 n n", true, false},
		{"r0 t0 -> r0 t0 t0", "r0 n t0 -> r0 n t0 t0", true, false},
		{"r0 t0 -> r0 t0 t0", "r0 n -> r0 n t0", false, false},
		{"r0 t0 -> r0", "r0 n -> r0", true, false},
		{"r0 n -> r0", "r0 (r0 -> r0) -> r0", false, false},
		{"r0 t0 t1 -> r0", "r0 t0 t0 -> r0", true, false},
		{"r0 t0 t1 -> r0 t1 t0", "r0 n n -> r0 n n", true, false},
		{"r0 t0 t1 -> r0 t1 t0", "r0 t0 t1 -> r0 t0 t1", false, false},
		{"r0 t0 t1 -> r0 t1", "r0 t0 t1 -> r0 t0", false, false},
		{"r0 t0 t0 -> r0 t0", "r0 (r0 -> r1) (r0 -> r1) -> r0 (r0 -> r1)", true, false},
		{"r0 t0 t0 -> r0 t0", "r0 (r0 -> r1) (r0 -> r0) -> r0 (r0 -> r1)", false, false},
		{"r0 t0 -> r0 t0", "r0 (r1 t0 -> r1) -> r0 (r1 t0 -> r1)", true, false},
		{"r0 t0 -> r0 t0", "r0 n -> r0 (r0 -> r0)", false, false},
		{"r0 (r0 -> r1) -> r1", "r0 (r0 -> r0 n) -> r0 n", true, false},
		{"r0 (r0 -> r1) -> r1", "r0 n (r0 n -> r0) -> r0", true, false},
		{"r0 (r0 -> r1) -> r1", "r0 (r0 n -> r0) -> r0", false, false},
		{"r0 (r1 -> r2) -> r0", "r0 (r0 -> r0) -> r0", true, false},
		{"r0 (r1 -> r1) -> r0", "r0 (r1 -> r2) -> r0", false, true},
		{"r0 t0 -> r1 t1", "r0 n -> r0 n", true, false},
		{"r0 t0 -> r0 t1", "r0 t0 -> r1 t0", false, false},
	} {
		general, special := effect(c.general), effect(c.special)
		if got := impl.MoreGeneral(general, special); got != c.is {
			t.Fatalf("%s is more general than %s: %v", c.general, c.special, got)
		}
		if got := impl.MoreGeneral(special, general); got != c.theOtherWayToo {
			t.Fatalf("%s is more general than %s: %v", c.special, c.general, got)
		}
	}
	// what letters stand for may be as long as a row can be
	if !impl.MoreGeneral(effect("r0 -> r1"), effect(texts("r0", 74)+" -> "+texts("r1", 74))) || !impl.MoreGeneral(effect(nothing), effect(texts("r0", 74)+" -> "+texts("r0", 74))) {
		t.Fatal("long rows")
	}
}

// Promise 6, without what is behind other effects.
func TestAsGeneralAsEachOther(t *testing.T) {
	list := append(goodEffects(), smallEffects()...)
	for _, e := range list {
		if !impl.MoreGeneral(e, e) {
			t.Fatalf("%s is as general as itself", modelText(e))
		}
	}
	for i, e := range list {
		for j := i % 11; j < len(list); j += 11 {
			if f := list[j]; impl.MoreGeneral(e, f) && impl.MoreGeneral(f, e) && !sameEffect(e, f) {
				t.Fatalf("%s and %s", modelText(e), modelText(f))
			}
		}
	}
}

// Promise 6.
func TestGeneralEffectsStayGeneral(t *testing.T) {
	r := rand.New(rand.NewSource(14))
	list := goodEffects()
	told, changed := 0, 0
	for range 20000 {
		e := list[r.Intn(len(list))]
		f := special(r, e)
		if !impl.EffectOk(f) {
			continue // it may have become too long
		}
		if !impl.MoreGeneral(e, f) {
			t.Fatalf("%s is more general than %s", modelText(e), modelText(f))
		}
		g := wordsEffect(r, 3)
		behindE, okE := impl.EffectThen(g, e)
		behindF, okF := impl.EffectThen(g, f)
		if !okE || !okF {
			continue
		}
		if !impl.MoreGeneral(behindE, behindF) {
			t.Fatalf("behind %s %s is more general than %s", modelText(g), modelText(e), modelText(f))
		}
		told++
		if !sameEffect(behindE, behindF) {
			changed++
		}
	}
	if told < 3000 || changed < 1000 {
		t.Fatalf("only %d are told, of which %d are not the same", told, changed)
	}
}

func TestEffectsAsTexts(t *testing.T) {
	for _, text := range []string{
		nothing, "r0 -> r1", "r0 n t0 -> r1 t1 t0", "r0 -> r0 (r0 -> r1)", "r0 (r0 (r1 t0 -> r1 (r2 -> r2) n) -> r2) (r3 -> r3) -> r0 (r4 -> r0 n (r0 -> r0) t1)",
		"r0 n (r0 -> r1) (r0 -> r1) -> r1", "r0 t0 (r0 -> r1) -> r1 t0", texts("r0", 74) + " -> " + texts("r0", 73),
		"r0 t0 t1 t2 t3 t4 t5 t6 t7 t8 t9 t10 -> r0 t10 t9",
	} {
		if got := impl.EffectText(effect(text)); got != text {
			t.Fatalf("the text of %s: %q", text, got)
		}
	}
	for e, want := range map[*impl.Effect]string{
		{In: []int{3, 0}, Out: []int{4, 3, 0, 0}}:                               "r0 -> r0 n",
		{In: []int{4, 4, 3, 0, 1, 0, 0}, Out: []int{3, 1}}:                      "r0 t0 n -> r1",
		{In: []int{4, 3, 0, 2, 3, 0, 3, 1}, Out: []int{3, 1}}:                   "r0 (r0 -> r1) -> r1",
		{In: []int{3, 0}, Out: []int{4, 3, 0, 2, 4, 3, 1, 0, 4, 3, 1, 1, 0}}:    "r0 -> r0 (r1 n -> r1 t0)",
		{In: []int{3, 0}, Out: []int{4, 3, 0, 2, 3, 1, 4, 3, 1, 2, 3, 2, 3, 2}}: "r0 -> r0 (r1 -> r1 (r2 -> r2))",
	} {
		if got := impl.EffectText(*e); got != want {
			t.Fatalf("the text of %v: %q", *e, got)
		}
	}
}

// Promise 46.
func TestTextsAreThoseOfOneEffect(t *testing.T) {
	seen := map[string]impl.Effect{}
	for _, e := range append(goodEffects(), smallEffects()...) {
		text := impl.EffectText(e)
		if text != modelText(e) || !sameEffect(effect(text), e) {
			t.Fatalf("the text of %v: %q", e, text)
		}
		if other, ok := seen[text]; ok && !sameEffect(e, other) {
			t.Fatalf("%q is the text of %v and %v", text, e, other)
		}
		seen[text] = e
	}
	if len(seen) < 300 {
		t.Fatalf("only %d texts", len(seen))
	}
}

func TestWhatEffectsNeed(t *testing.T) {
	for text, want := range map[string][2]int{
		nothing: {0, 0}, "r0 -> r1": {0, 0}, "r0 t0 -> r0 t0 t0": {1, 2}, "r0 n (r0 -> r1) (r0 -> r1) -> r1": {3, 0}, "r0 -> r0 (r1 n n -> r1 n)": {0, 1},
		"r0 (r0 n n n -> r1 n n) n -> r1": {2, 0}, texts("r0", 74) + " -> " + texts("r0", 73): {74, 73},
	} {
		if n, m := impl.NeedsOf(effect(text)); n != want[0] || m != want[1] {
			t.Fatalf("%s needs %d and leaves %d", text, n, m)
		}
	}
}

// Promise 47.
func TestOneValueMoreOnTheTop(t *testing.T) {
	put := func(row []int) []int { return slices.Concat([]int{impl.RowPut}, row, []int{impl.TyNum}) }
	fit := 0
	for _, e := range append(goodEffects(), smallEffects()...) {
		n, m := impl.NeedsOf(e)
		more := impl.Effect{In: put(e.In), Out: put(e.Out)}
		moreN, moreM := impl.NeedsOf(more)
		if len(more.In) > 150 || len(more.Out) > 150 {
			if moreN != -1 || moreM != -1 {
				t.Fatalf("%v needs %d and leaves %d", more, moreN, moreM)
			}
			continue
		}
		if fit++; n < 0 || m < 0 || moreN != n+1 || moreM != m+1 {
			t.Fatalf("%s needs %d and leaves %d, and with a number more %d and %d", modelText(e), n, m, moreN, moreM)
		}
	}
	if fit < 500 {
		t.Fatalf("only %d fit", fit)
	}
}

func TestEffectsAreKept(t *testing.T) {
	list := append(goodEffects(), badEffects()...)
	for i, e := range list {
		if len(e.In)+len(e.Out) > 1000 {
			continue
		}
		f := list[(i*7+3)%len(list)]
		kept(t, e.In, func(in []int) {
			kept(t, e.Out, func(out []int) {
				given := impl.Effect{In: in, Out: out}
				impl.RowOk(in)
				impl.EffectOk(given)
				impl.EffectText(given)
				impl.NeedsOf(given)
				impl.MoreGeneral(given, f)
				impl.MoreGeneral(f, given)
				impl.MoreGeneral(given, given)
				for _, pair := range [][2]impl.Effect{{given, f}, {f, given}, {given, given}, {given, effect(nothing)}, {effect(nothing), given}} {
					first, ok := impl.EffectThen(pair[0], pair[1])
					if !ok {
						continue
					}
					second, _ := impl.EffectThen(pair[0], pair[1])
					wantIn, wantOut := slices.Clone(first.In), slices.Clone(first.Out)
					spoil(first.In)
					spoil(second.Out)
					if !same(first.Out, wantOut) || !same(second.In, wantIn) {
						t.Fatalf("In and Out of %v share memory", pair)
					}
					spoil(first.Out)
					spoil(second.In)
					if third, ok := impl.EffectThen(pair[0], pair[1]); !ok || !same(third.In, wantIn) || !same(third.Out, wantOut) {
						t.Fatalf("%v, and once more %v", pair, third)
					}
				}
			})
		})
	}
}
