package tests

import (
	"slices"
	"testing"

	"loop.example/g00456/impl"
)

// Promise 1, of the calls of chapter 5. Those on a disk stand among all calls on one (allCalls); here are their arguments, and the others.

// deltaDisk has generations of hosts 0, 1 and 3, one of host 1 that is not sure, the last one of host 3, and host 1's in host 2's place.
func deltaDisk() impl.Disk {
	d := mixedDisk()
	d.Sectors[5], d.Sectors[6] = deltaText(0, 1, 0), deltaText(1, 2, 30)
	d.Sectors[7], d.Sectors[8] = deltaText(1, 9, 9), deltaText(3, 1000000, 10000000)
	d.Pending = []impl.Io{
		{Host: 1, At: 20, Data: "b"},
		{Host: 1, At: 6, Data: deltaText(1, 3, 40)},
		{Host: 3, At: 21, Data: "x"},
		{Host: 0, At: 22, Data: "a"},
	}
	return d
}

// filledUp is d with writes of a host behind its own, up to count in all.
func filledUp(d impl.Disk, host, count int) impl.Disk {
	d = cloneDisk(d)
	for len(d.Pending) < count {
		d.Pending = append(d.Pending, impl.Io{Host: host, At: 30 + len(d.Pending)%8, Data: "filled"})
	}
	return d
}

func anyHosts() []int {
	return []int{0, 1, 2, 3, -1, 4, least, greatest}
}

func anyHours() []int {
	return []int{0, 1, 39, 40, 41, 9999999, 10000000, -1, 10000001, least, greatest}
}

// anyDeltas are right ones, those of deltaDisk among them, and wrong ones.
func anyDeltas() []impl.Delta {
	return append(wrongDeltas(), slices.Concat(edgeDeltas(), []impl.Delta{{Host: 1, Gen: 2, Stamp: 30}, {Host: 1, Gen: 3, Stamp: 40}, {Host: 1, Gen: 9, Stamp: 9}})...)
}

// deltaCalls are the calls of chapter 5 on a disk.
func deltaCalls() []diskCall {
	var out []diskCall
	for _, host := range anyHosts() {
		for _, of := range anyHosts() {
			out = append(out, diskCall{"ReadDelta", func(d impl.Disk) (a answer) { a.delta, a.code = impl.ReadDelta(d, host, of); return a }})
		}
		for _, now := range anyHours() {
			out = append(out, diskCall{"TakeDelta", func(d impl.Disk) (a answer) { a.disk, a.delta, a.code = impl.TakeDelta(d, host, now); return a }})
		}
	}
	for _, x := range anyDeltas() {
		for _, now := range anyHours() {
			out = append(out, diskCall{"RenewDelta", func(d impl.Disk) (a answer) { a.disk, a.delta, a.code = impl.RenewDelta(d, x, now); return a }})
		}
	}
	return out
}

func TestP1GenerationsMeetEveryCode(t *testing.T) {
	met := map[string]map[int]int{"ReadDelta": {}, "TakeDelta": {}, "RenewDelta": {}}
	everyCall(t, func(where string, d impl.Disk, c diskCall) {
		if codes, ok := met[c.name]; ok {
			codes[c.run(d).code]++
		}
	})
	for name, want := range map[string][]int{
		"ReadDelta":  {impl.OK, impl.ErrBad, impl.ErrRange, impl.ErrNone},
		"TakeDelta":  {impl.OK, impl.ErrBad, impl.ErrRange, impl.ErrMany, impl.ErrFull},
		"RenewDelta": {impl.OK, impl.ErrBad, impl.ErrRange, impl.ErrFull, impl.ErrStale, impl.ErrOrder},
	} {
		for _, code := range want {
			if met[name][code] == 0 {
				t.Error(name, "never answered", code)
			}
		}
		if len(met[name]) != len(want) {
			t.Error(name, "answered other codes:", met[name])
		}
	}
}

func TestP1GenerationsTextsHaveAlikeAnswersToAlikeArguments(t *testing.T) {
	for _, x := range anyDeltas() {
		text, code := impl.EncodeDelta(x)
		ok := impl.DeltaOK(x)
		impl.EncodeDelta(impl.Delta{Host: 2, Gen: 7, Stamp: 8})
		if text2, code2 := impl.EncodeDelta(x); text2 != text || code2 != code || impl.DeltaOK(x) != ok {
			t.Error("another answer to alike arguments:", x)
		}
		if code != impl.OK && text != "" {
			t.Error("not zero with a code:", x, text)
		}
	}
	for _, text := range append(anyTexts(), deltaText(1, 2, 3)) {
		x, code := impl.DecodeDelta(text)
		impl.DecodeDelta(deltaText(2, 7, 8))
		if x2, code2 := impl.DecodeDelta(text); x2 != x || code2 != code {
			t.Errorf("another answer to alike arguments: %.80q", text)
		}
		if code != impl.OK && x != (impl.Delta{}) {
			t.Errorf("not zero with a code: %.80q %v", text, x)
		}
	}
}
