package tests

import (
	"slices"
	"strings"
	"testing"

	"loop.example/g00456/impl"
)

// Promise 1, of the calls of chapter 3.

const guardNumber = -77

// roomyInts is a list with guards behind its end, where a careless append would write.
func roomyInts(list []int) []int {
	out := append(slices.Clone(list), guardNumber, guardNumber, guardNumber)
	return out[:len(list)]
}

func untouchedInts(list, was []int) bool {
	behind := list[len(list) : len(list)+3]
	return slices.Equal(list, was) && !slices.ContainsFunc(behind, func(n int) bool { return n != guardNumber })
}

func scribbleInts(list []int) {
	for i := range list[:cap(list)] {
		list[:cap(list)][i] = -9
	}
}

// recordAnswer is what any call of chapter 3 answers; what a call has not stays zero.
type recordAnswer struct {
	text         string
	list         []int
	number, code int
}

func sameRecordAnswer(a, b recordAnswer) bool {
	return a.text == b.text && slices.Equal(a.list, b.list) && a.number == b.number && a.code == b.code
}

type recordCall struct {
	name string
	run  func() recordAnswer
}

func listCalls(kind int, list []int) []recordCall {
	return []recordCall{
		{"PackInts", func() (a recordAnswer) { a.text, a.code = impl.PackInts(list); return a }},
		{"SealRecord", func() (a recordAnswer) { a.text, a.code = impl.SealRecord(kind, list); return a }},
	}
}

func textCalls(kind int, text string) []recordCall {
	return []recordCall{
		{"UnpackInts", func() (a recordAnswer) { a.list, a.code = impl.UnpackInts(text); return a }},
		{"OpenRecord", func() (a recordAnswer) { a.list, a.code = impl.OpenRecord(text, kind); return a }},
		{"KindOf", func() (a recordAnswer) { a.number, a.code = impl.KindOf(text); return a }},
		{"SumOf", func() (a recordAnswer) { a.number = impl.SumOf(text); return a }},
	}
}

func exampleKinds() []int {
	return []int{1, 4, 9, 0, 10, least, greatest}
}

// anyLists are right ones and wrong ones.
func anyLists() [][]int {
	out := exampleLists()
	for _, n := range wrongNumbers() {
		out = append(out, []int{n}, []int{1, n, 2})
	}
	for _, size := range []int{17, impl.MaxList, impl.MaxList + 1} {
		out = append(out, make([]int, size))
	}
	return out
}

// anyTexts are records and packed numbers, some of them cut, and texts that are neither.
func anyTexts() []string {
	out := []string{"", "a", "record", strings.Repeat("\xff", 64), strings.Repeat("\x00", 68), strings.Repeat("r", impl.MaxText), strings.Repeat("r", impl.MaxText+1)}
	for _, list := range exampleLists() {
		for _, kind := range []int{0, 1, 4, 9, 10} {
			text := sealed(kind, list)
			out = append(out, text, text[1:], text[:len(text)-1], text+"\x00", packed(list))
		}
	}
	return out
}

func TestP1RecordsLeaveListsAsTheyAre(t *testing.T) {
	for _, list := range anyLists() {
		for _, kind := range exampleKinds() {
			given := roomyInts(list)
			for _, c := range listCalls(kind, given) {
				first := c.run()
				if !untouchedInts(given, list) {
					t.Fatal("the argument was changed, or what stands behind its end:", c.name, list)
				}
				if second := c.run(); !sameRecordAnswer(first, second) {
					t.Fatal("another answer to alike arguments:", c.name, list)
				}
			}
			calls := listCalls(kind, given)
			a, b := calls[0].run(), calls[1].run()
			wantA, wantB := strings.Clone(a.text), strings.Clone(b.text)
			scribbleInts(given)
			if a.text != wantA || b.text != wantB {
				t.Fatal("writing into the argument changed the answer:", list)
			}
		}
	}
}

func TestP1RecordsAnswerNewMemory(t *testing.T) {
	for _, text := range anyTexts() {
		for _, kind := range exampleKinds() {
			for _, c := range textCalls(kind, text) {
				first, second := c.run(), c.run()
				want := second
				want.list = slices.Clone(second.list)
				scribbleInts(first.list)
				if third := c.run(); !sameRecordAnswer(second, want) || !sameRecordAnswer(third, want) {
					t.Fatalf("%s of %.80q: answers share memory, or are not alike", c.name, text)
				}
			}
		}
	}
}

func TestP1RecordsWithACodeAllElseIsZero(t *testing.T) {
	var calls []recordCall
	for _, kind := range exampleKinds() {
		for _, list := range anyLists() {
			calls = append(calls, listCalls(kind, list)...)
		}
		for _, text := range anyTexts() {
			calls = append(calls, textCalls(kind, text)...)
		}
	}
	for _, c := range calls {
		if a := c.run(); a.code != impl.OK && !sameRecordAnswer(a, recordAnswer{code: a.code}) {
			t.Fatal("not zero with a code:", c.name, a)
		}
	}
}

func TestP1RecordsHoldNilAndEmptyForTheSame(t *testing.T) {
	for _, kind := range exampleKinds() {
		empty := listCalls(kind, []int{})
		for i, c := range listCalls(kind, nil) {
			if !sameRecordAnswer(c.run(), empty[i].run()) {
				t.Error("nil and an empty list are told apart:", c.name)
			}
		}
	}
}
