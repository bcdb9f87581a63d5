package tests

import (
	"slices"
	"strings"
	"testing"

	"loop.example/g00456/impl"
)

// Promise 1, of the calls of chapter 8. Those on a disk stand among all calls on one (allCalls); here are their arguments, and the others.

// journalDisk has what waits in the slots of hosts 0 and 1, another journal of host 1's that is to itself alone, a broken head of host 2's, and a broken update of host 3's.
func journalDisk() impl.Disk {
	d := waiting(mixedDisk(), 0, 5, mostNumber, listOf(5, false))
	d = waiting(d, 1, 0, 4, listOf(2, false))
	d = waiting(d, 3, 2, 6, listOf(1, true))
	d.Sectors[51] = "broken"
	d.Pending = []impl.Io{
		{Host: 1, At: 46, Data: updateText(impl.Update{At: 30, Data: "unsure"})},
		{Host: 1, At: 45, Data: headText(1, 5)},
		{Host: 2, At: 21, Data: "c"},
		{Host: 0, At: 22, Data: "a"},
	}
	return d
}

// anyMoves are right lists and wrong ones, some of them longer than there is room for, or than a list may be.
func anyMoves() [][]impl.Move {
	return [][]impl.Move{
		nil, {}, {moveFlush()}, {moveWrite(9, "x")}, {moveWrite(0, ""), moveFlush(), moveWrite(63, strings.Repeat("x", 80))},
		planBy(1, 7, listOf(1, false)), planBy(3, 7, listOf(5, false)), slices.Repeat([]impl.Move{moveFlush()}, 200), slices.Repeat([]impl.Move{moveFlush()}, 201),
		{{}}, {moveFlush(), {Kind: 3}}, {moveWrite(64, "x")}, {moveWrite(9, strings.Repeat("x", 81))}, {{Kind: 2, At: 1}}, make([]impl.Move, impl.MaxList), make([]impl.Move, impl.MaxList+1),
	}
}

// journalCalls are the calls of chapter 8 on a disk.
func journalCalls() []diskCall {
	var out []diskCall
	for _, host := range anyHosts() {
		for _, of := range anyHosts() {
			out = append(out,
				diskCall{"JournalOf", func(d impl.Disk) (a answer) { a.updates, a.number, a.code = impl.JournalOf(d, host, of); return a }},
				diskCall{"ReplayPlan", func(d impl.Disk) (a answer) { a.moves, a.code = impl.ReplayPlan(d, host, of); return a }})
		}
		for _, list := range anyMoves() {
			out = append(out, diskCall{"MovesDo", func(d impl.Disk) (a answer) { a.disk, a.code = impl.MovesDo(d, host, list); return a }})
		}
	}
	return out
}

func TestP1JournalsMeetEveryCode(t *testing.T) {
	met := map[string]map[int]int{"JournalOf": {}, "ReplayPlan": {}, "MovesDo": {}}
	everyCall(t, func(where string, d impl.Disk, c diskCall) {
		if codes, ok := met[c.name]; ok {
			codes[c.run(d).code]++
		}
	})
	for name, want := range map[string][]int{
		"JournalOf":  {impl.OK, impl.ErrBad, impl.ErrRange, impl.ErrBroken},
		"ReplayPlan": {impl.OK, impl.ErrBad, impl.ErrRange, impl.ErrBroken},
		"MovesDo":    {impl.OK, impl.ErrLong, impl.ErrBad, impl.ErrRange, impl.ErrFull},
	} {
		for _, code := range want {
			if met[name][code] == 0 {
				t.Error(name, "never answered", code)
			}
		}
		if len(met[name]) != len(want) {
			t.Error(name, "answered other codes:", met[name])
		}
	}
}

var (
	guardUpdate = impl.Update{At: 777, Data: guard}
	guardMove   = impl.Move{Kind: 77, At: 777, Data: guard}
)

// guarded is a list with guards behind its end.
func guarded[T any](list []T, behind T) []T {
	out := append(slices.Clone(list), behind, behind, behind)
	return out[:len(list)]
}

// wantGuarded asks that a guarded list is like was, and that its guards stand.
func wantGuarded[T comparable](t *testing.T, where string, list, was []T, behind T) {
	t.Helper()
	if n := len(was); !slices.Equal(list, was) || !slices.Equal(list[:n+3][n:], []T{behind, behind, behind}) {
		t.Fatal("the argument was changed, or what stands behind its end:", where)
	}
}

func TestP1ListsOfMovesStayAsTheyAre(t *testing.T) {
	for _, list := range anyMoves() {
		for _, named := range slices.Concat(rightDisks(), wrongDisks()[:3]) {
			for _, host := range anyHosts() {
				given, d := guarded(list, guardMove), roomy(named.disk)
				got, code := impl.MovesDo(d, host, given)
				want := cloneDisk(got)
				wantGuarded(t, "MovesDo", given, list, guardMove)
				fillUp(given, guardMove)
				scribble(d)
				if !sameDisk(got, want) {
					t.Fatal("writing into the arguments changed the answer:", named.name, host, code)
				}
			}
		}
	}
}

// anyUpdates are right lists and wrong ones.
func anyUpdates() [][]impl.Update {
	return append(planLists(), []impl.Update{}, listOf(5, false), listOf(2, true), make([]impl.Update, impl.MaxList+1))
}

func TestP1PlansShareNoMemory(t *testing.T) {
	for _, list := range anyUpdates() {
		for _, host := range anyHosts() {
			for _, seq := range []int{0, 7, mostNumber, -1, mostNumber + 1, least, greatest} {
				given := guarded(list, guardUpdate)
				got, code := impl.JournalPlan(host, seq, given)
				wantGuarded(t, "JournalPlan", given, list, guardUpdate)
				other, code2 := impl.JournalPlan(host, seq, slices.Clone(list))
				want := slices.Clone(got)
				fillUp(given, guardUpdate)
				if !slices.Equal(got, want) || !slices.Equal(other, want) || code != code2 {
					t.Fatal("another answer to alike arguments, or a shared one:", host, seq, code, code2)
				}
				fillUp(got, guardMove)
				if !slices.Equal(other, want) || code != impl.OK && len(want) != 0 {
					t.Fatal("two answers share memory, or one is not zero with a code:", host, seq, code)
				}
			}
		}
	}
}

// Between two alike calls stands another one.
func TestP1JournalsTextsHaveAlikeAnswersToAlikeArguments(t *testing.T) {
	for _, u := range slices.Concat(edgeUpdates(), wrongUpdates()) {
		text, code := impl.EncodeUpdate(u)
		impl.EncodeUpdate(impl.Update{At: 12, Data: "between"})
		if text2, code2 := impl.EncodeUpdate(u); text2 != text || code2 != code {
			t.Error("another answer to alike arguments:", u)
		}
		if code != impl.OK && text != "" {
			t.Error("not zero with a code:", u, text)
		}
	}
	for _, text := range slices.Concat(anyTexts(), noUpdateTexts(), []string{updateText(impl.Update{At: 10, Data: "hi"})}) {
		u, code := impl.DecodeUpdate(text)
		impl.DecodeUpdate(updateText(impl.Update{At: 12, Data: "between"}))
		if u2, code2 := impl.DecodeUpdate(text); u2 != u || code2 != code {
			t.Errorf("another answer to alike arguments: %.80q", text)
		}
		if code != impl.OK && u != (impl.Update{}) {
			t.Errorf("not zero with a code: %.80q %v", text, u)
		}
	}
	for _, host := range anyHosts() {
		slot, code := impl.SlotOf(host)
		impl.SlotOf(2)
		if slot2, code2 := impl.SlotOf(host); slot2 != slot || code2 != code || code != impl.OK && slot != 0 {
			t.Error("SlotOf", host, slot, code, slot2, code2)
		}
	}
}
