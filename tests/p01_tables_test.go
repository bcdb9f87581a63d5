package tests

import (
	"slices"
	"testing"

	"loop.example/g00456/impl"
)

// Promise 1, of the calls of chapter 10.

// tableAnswer is what any of them answers; what a call has not stays zero.
type tableAnswer struct {
	text          string
	list          []int
	kind, cluster int
	ok            bool
	code          int
}

func sameTableAnswer(a, b tableAnswer) bool {
	return a.text == b.text && slices.Equal(a.list, b.list) && a.kind == b.kind && a.cluster == b.cluster && a.ok == b.ok && a.code == b.code
}

func cloneTableAnswer(a tableAnswer) tableAnswer {
	a.list = slices.Clone(a.list)
	return a
}

type tableCall struct {
	name string
	run  func(table []int) tableAnswer
}

// tableCalls are the calls on tables, with places and sizes that are right and that are none.
func tableCalls() []tableCall {
	out := []tableCall{
		{"TableOK", func(table []int) tableAnswer { return tableAnswer{ok: impl.TableOK(table)} }},
		{"EncodeTable", func(table []int) (a tableAnswer) { a.text, a.code = impl.EncodeTable(table); return a }},
		{"ClustersOf", func(table []int) (a tableAnswer) { a.list, a.code = impl.ClustersOf(table); return a }},
	}
	for _, n := range []int{0, 1, 5, 11, 12, -1, 13, least, greatest} {
		out = append(out,
			tableCall{"EntryOf", func(table []int) (a tableAnswer) { a.kind, a.cluster, a.code = impl.EntryOf(table, n); return a }},
			tableCall{"ResizeTable", func(table []int) (a tableAnswer) { a.list, a.code = impl.ResizeTable(table, n); return a }})
	}
	return out
}

// anyTables are right ones and wrong ones.
func anyTables() [][]int {
	return slices.Concat(exampleTables(), wrongTables(), longTables())
}

func everyTableCall(f func(table []int, c tableCall)) {
	calls := tableCalls()
	for _, table := range anyTables() {
		for _, c := range calls {
			f(table, c)
		}
	}
}

// tablesBusy is what may be called between two alike calls.
func tablesBusy() {
	impl.ResizeTable([]int{25, 1, 2}, 12)
	impl.ResizeTable([]int{25, 1, 2}, 1)
	impl.ClustersOf(evenTable(12, 9))
	impl.EncodeTable([]int{4, 0})
	impl.DecodeTable(sealed(3, []int{1, 7, 0}))
	impl.DecodeTable("no table")
	impl.EntryOf([]int{3}, 1)
}

func TestP1TablesLeaveArgumentsAsTheyAre(t *testing.T) {
	everyTableCall(func(table []int, c tableCall) {
		given := roomyInts(table)
		got := c.run(given)
		if !untouchedInts(given, table) {
			t.Fatal("the argument was changed, or what stands behind its end:", c.name)
		}
		want := cloneTableAnswer(got)
		scribbleInts(given)
		if !sameTableAnswer(got, want) {
			t.Fatal("writing into the argument changed the answer:", c.name)
		}
		given = roomyInts(table)
		scribbleInts(c.run(given).list)
		if !untouchedInts(given, table) {
			t.Fatal("writing into the answer changed the argument:", c.name)
		}
	})
}

func TestP1TablesHaveAlikeAnswersInNewMemory(t *testing.T) {
	everyTableCall(func(table []int, c tableCall) {
		first := c.run(table)
		tablesBusy()
		second := c.run(slices.Clone(table))
		want := cloneTableAnswer(second)
		if !sameTableAnswer(first, second) {
			t.Fatal("another answer to alike arguments:", c.name)
		}
		scribbleInts(first.list)
		if !sameTableAnswer(second, want) || !sameTableAnswer(c.run(table), want) {
			t.Fatal("two answers share memory:", c.name)
		}
	})
}

func TestP1TablesReadFromTextsAreNewMemory(t *testing.T) {
	texts := slices.Concat(anyTexts(), noTableTexts())
	for _, table := range exampleTables() {
		texts = append(texts, sealed(3, table))
	}
	met := map[int]int{}
	for _, text := range texts {
		first, code := impl.DecodeTable(text)
		tablesBusy()
		second, code2 := impl.DecodeTable(text)
		met[code]++
		if !slices.Equal(first, second) || code != code2 || code != impl.OK && len(first) != 0 {
			t.Fatalf("another answer to alike arguments, or not zero with a code: %.80q", text)
		}
		want := slices.Clone(second)
		scribbleInts(first)
		if third, _ := impl.DecodeTable(text); !slices.Equal(second, want) || !slices.Equal(third, want) {
			t.Fatalf("two answers share memory: %.80q", text)
		}
	}
	if len(met) != 3 || met[impl.OK] == 0 || met[impl.ErrForm] == 0 || met[impl.ErrLong] == 0 {
		t.Error("DecodeTable answered other codes:", met)
	}
}

func TestP1TablesHoldNilAndEmptyForTheSame(t *testing.T) {
	for _, c := range tableCalls() {
		if !sameTableAnswer(c.run(nil), c.run([]int{})) {
			t.Error("nil and an empty list are told apart:", c.name)
		}
	}
}

func TestP1TablesWithACodeAllElseIsZero(t *testing.T) {
	met := map[string]map[int]int{}
	everyTableCall(func(table []int, c tableCall) {
		a := c.run(table)
		if met[c.name] == nil {
			met[c.name] = map[int]int{}
		}
		met[c.name][a.code]++
		if a.code != impl.OK && !sameTableAnswer(a, tableAnswer{code: a.code}) {
			t.Fatal("not zero with a code:", c.name, a)
		}
	})
	for name, want := range map[string][]int{
		"TableOK":     {impl.OK},
		"EncodeTable": {impl.OK, impl.ErrLong, impl.ErrBad},
		"ClustersOf":  {impl.OK, impl.ErrLong, impl.ErrBad},
		"EntryOf":     {impl.OK, impl.ErrLong, impl.ErrBad, impl.ErrRange},
		"ResizeTable": {impl.OK, impl.ErrLong, impl.ErrBad, impl.ErrRange},
	} {
		for _, code := range want {
			if met[name][code] == 0 {
				t.Error(name, "never answered", code)
			}
		}
		if len(met[name]) != len(want) {
			t.Error(name, "answered other codes:", met[name])
		}
	}
}
