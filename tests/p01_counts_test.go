package tests

import (
	"slices"
	"testing"

	"loop.example/g00456/impl"
)

// Promise 1, of the calls of chapter 9. They answer what those of chapter 3 do.

type countCall struct {
	name string
	run  func(refs []int) recordAnswer
}

// countCalls are the calls on counts, with clusters that are right and that are none.
func countCalls() []countCall {
	out := []countCall{
		{"RefsOK", func(refs []int) recordAnswer { return recordAnswer{number: numberOf(impl.RefsOK(refs))} }},
		{"EncodeRefs", func(refs []int) (a recordAnswer) { a.text, a.code = impl.EncodeRefs(refs); return a }},
		{"FreeCluster", func(refs []int) (a recordAnswer) { a.number, a.code = impl.FreeCluster(refs); return a }},
		{"RefSum", func(refs []int) (a recordAnswer) { a.number, a.code = impl.RefSum(refs); return a }},
	}
	for _, c := range []int{0, 5, 6, 23, -1, 24, least, greatest} {
		out = append(out,
			countCall{"RefUp", func(refs []int) (a recordAnswer) { a.list, a.code = impl.RefUp(refs, c); return a }},
			countCall{"RefDown", func(refs []int) (a recordAnswer) { a.list, a.code = impl.RefDown(refs, c); return a }})
	}
	return out
}

// anyRefs are right ones and wrong ones.
func anyRefs() [][]int {
	return slices.Concat(exampleRefs(), wrongRefs(), longRefs())
}

func everyCountCall(f func(refs []int, c countCall)) {
	for _, refs := range anyRefs() {
		for _, c := range countCalls() {
			f(refs, c)
		}
	}
}

// countsBusy is what may be called between two alike calls.
func countsBusy() {
	impl.RefUp(evenRefs(3), 4)
	impl.RefDown(evenRefs(0), 4)
	impl.EncodeRefs(evenRefs(9))
	impl.DecodeRefs(refsText(evenRefs(2)))
	impl.DecodeRefs("no counts")
}

func TestP1CountsLeaveArgumentsAsTheyAre(t *testing.T) {
	everyCountCall(func(refs []int, c countCall) {
		given := roomyInts(refs)
		got := c.run(given)
		if !untouchedInts(given, refs) {
			t.Fatal("the argument was changed, or what stands behind its end:", c.name)
		}
		want := got
		want.list = slices.Clone(got.list)
		scribbleInts(given)
		if !sameRecordAnswer(got, want) {
			t.Fatal("writing into the argument changed the answer:", c.name)
		}
		given = roomyInts(refs)
		scribbleInts(c.run(given).list)
		if !untouchedInts(given, refs) {
			t.Fatal("writing into the answer changed the argument:", c.name)
		}
	})
}

func TestP1CountsHaveAlikeAnswersInNewMemory(t *testing.T) {
	everyCountCall(func(refs []int, c countCall) {
		first := c.run(refs)
		countsBusy()
		second := c.run(slices.Clone(refs))
		want := second
		want.list = slices.Clone(second.list)
		if !sameRecordAnswer(first, second) {
			t.Fatal("another answer to alike arguments:", c.name)
		}
		scribbleInts(first.list)
		if !sameRecordAnswer(second, want) || !sameRecordAnswer(c.run(refs), want) {
			t.Fatal("two answers share memory:", c.name)
		}
	})
}

func TestP1CountsReadFromTextsAreNewMemory(t *testing.T) {
	texts := slices.Concat(anyTexts(), noRefsTexts())
	for _, refs := range exampleRefs() {
		texts = append(texts, refsText(refs))
	}
	for _, text := range texts {
		first, code := impl.DecodeRefs(text)
		countsBusy()
		second, code2 := impl.DecodeRefs(text)
		if !slices.Equal(first, second) || code != code2 || code != impl.OK && len(first) != 0 {
			t.Fatalf("another answer to alike arguments, or not zero with a code: %.80q", text)
		}
		want := slices.Clone(second)
		scribbleInts(first)
		if third, _ := impl.DecodeRefs(text); !slices.Equal(second, want) || !slices.Equal(third, want) {
			t.Fatalf("two answers share memory: %.80q", text)
		}
	}
}

func TestP1CountsHoldNilAndEmptyForTheSame(t *testing.T) {
	for _, c := range countCalls() {
		if !sameRecordAnswer(c.run(nil), c.run([]int{})) {
			t.Error("nil and an empty list are told apart:", c.name)
		}
	}
}

// One more than the greatest count, and one less than 0, answer what was given; with every other code all else is zero.
func TestP1CountsWithACodeAllElseIsZero(t *testing.T) {
	met := map[string]map[int]int{}
	everyCountCall(func(refs []int, c countCall) {
		a := c.run(refs)
		if met[c.name] == nil {
			met[c.name] = map[int]int{}
		}
		met[c.name][a.code]++
		want := recordAnswer{code: a.code}
		if a.code == impl.ErrMany || a.code == impl.ErrNone {
			want.list = refs
		}
		if a.code != impl.OK && !sameRecordAnswer(a, want) {
			t.Fatal("another answer with a code:", c.name, a)
		}
	})
	for name, want := range map[string][]int{
		"RefsOK":      {impl.OK},
		"EncodeRefs":  {impl.OK, impl.ErrLong, impl.ErrBad},
		"FreeCluster": {impl.OK, impl.ErrLong, impl.ErrBad, impl.ErrFull},
		"RefSum":      {impl.OK, impl.ErrLong, impl.ErrBad},
		"RefUp":       {impl.OK, impl.ErrLong, impl.ErrBad, impl.ErrRange, impl.ErrMany},
		"RefDown":     {impl.OK, impl.ErrLong, impl.ErrBad, impl.ErrRange, impl.ErrNone},
	} {
		for _, code := range want {
			if met[name][code] == 0 {
				t.Error(name, "never answered", code)
			}
		}
		if len(met[name]) != len(want) {
			t.Error(name, "answered other codes:", met[name])
		}
	}
}
