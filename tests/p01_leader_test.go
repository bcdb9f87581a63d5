package tests

import (
	"slices"
	"testing"

	"loop.example/g00456/impl"
)

// Promise 1, of the calls of chapter 7. Those on a disk stand among all calls on one (allCalls); here are their arguments, and the others.

// leaderDisk has a leader, blocks of this and of earlier versions and one that is none, and another leader that is to host 1 alone.
func leaderDisk() impl.Disk {
	d := mixedDisk()
	copy(d.Sectors, diskOf(impl.Leader{Ver: 6, Owner: 2, Gen: 5}, impl.Block{Ver: 7, Mbal: 4}, impl.Block{Ver: 6, Mbal: 9, Bal: 9, Inp: 1024*4 + 1}, impl.Block{Ver: 7, Mbal: 6, Bal: 2, Inp: 1024*8 + 3}).Sectors[:4])
	d.Pending = []impl.Io{
		{Host: 1, At: 20, Data: "b"},
		{Host: 1, At: 0, Data: leaderText(impl.Leader{Ver: 9, Owner: 1, Gen: 1000000})},
		{Host: 2, At: 21, Data: "c"},
		{Host: 3, At: 1, Data: blockText(impl.Block{Ver: 7, Mbal: 8, Bal: 8, Inp: 3})},
		{Host: 0, At: 22, Data: "a"},
	}
	return d
}

// anyOwners are right ones and wrong ones, each with a generation.
func anyOwners() [][2]int {
	return [][2]int{{0, 1}, {1, 5}, {3, 1000000}, {2, 0}, {2, 1000001}, {-1, 1}, {4, 1}, {-1, 0}, {least, least}, {greatest, greatest}}
}

// anyLeaders are right ones, those of the disks among them, and wrong ones.
func anyLeaders() []impl.Leader {
	return slices.Concat(wrongLeaders()[:12], []impl.Leader{
		{Owner: -1}, {Ver: 6, Owner: 2, Gen: 5}, {Ver: 6, Owner: 2, Gen: 4}, {Ver: 6, Owner: -1}, {Ver: 9, Owner: 1, Gen: 1000000}, {Ver: 1000000, Owner: 2, Gen: 5}, {Ver: 1000000, Owner: -1},
	})
}

// leaderCalls are the calls of chapter 7 on a disk.
func leaderCalls() []diskCall {
	var out []diskCall
	for _, host := range anyHosts() {
		out = append(out, diskCall{"ReadLeader", func(d impl.Disk) (a answer) { a.leader, a.code = impl.ReadLeader(d, host); return a }})
		for _, gen := range []int{5, 1000000, 0, -1, least, greatest} {
			out = append(out, diskCall{"Holds", func(d impl.Disk) (a answer) {
				holds, code := impl.Holds(d, host, gen)
				return answer{number: numberOf(holds), code: code}
			}})
		}
		for _, o := range anyOwners() {
			out = append(out, diskCall{"Elect", func(d impl.Disk) (a answer) { a.disk, a.leader, a.code = impl.Elect(d, host, o[0], o[1]); return a }})
		}
		for _, x := range anyLeaders() {
			out = append(out, diskCall{"Release", func(d impl.Disk) (a answer) { a.disk, a.leader, a.code = impl.Release(d, host, x); return a }})
		}
	}
	return out
}

func TestP1LeadersMeetEveryCode(t *testing.T) {
	met := map[string]map[int]int{"ReadLeader": {}, "Elect": {}, "Release": {}, "Holds": {}}
	everyCall(t, func(where string, d impl.Disk, c diskCall) {
		if codes, ok := met[c.name]; ok {
			codes[c.run(d).code]++
		}
	})
	for name, want := range map[string][]int{
		"ReadLeader": {impl.OK, impl.ErrBad, impl.ErrRange},
		"Elect":      {impl.OK, impl.ErrBad, impl.ErrRange, impl.ErrFull, impl.ErrMany, impl.ErrAbort},
		"Release":    {impl.OK, impl.ErrBad, impl.ErrRange, impl.ErrFull, impl.ErrStale, impl.ErrHeld, impl.ErrMany},
		"Holds":      {impl.OK, impl.ErrBad, impl.ErrRange},
	} {
		for _, code := range want {
			if met[name][code] == 0 {
				t.Error(name, "never answered", code)
			}
		}
		if len(met[name]) != len(want) {
			t.Error(name, "answered other codes:", met[name])
		}
	}
}

func TestP1LeadersTextsHaveAlikeAnswersToAlikeArguments(t *testing.T) {
	for _, x := range slices.Concat(edgeLeaders(), wrongLeaders()) {
		text, code := impl.EncodeLeader(x)
		ok := impl.LeaderOK(x)
		impl.EncodeLeader(impl.Leader{Ver: 2, Owner: 1, Gen: 8})
		if text2, code2 := impl.EncodeLeader(x); text2 != text || code2 != code || impl.LeaderOK(x) != ok {
			t.Error("another answer to alike arguments:", x)
		}
		if code != impl.OK && text != "" {
			t.Error("not zero with a code:", x, text)
		}
	}
	for _, text := range slices.Concat(anyTexts(), noLeaderTexts(), []string{leaderText(impl.Leader{Ver: 4, Owner: 2, Gen: 7})}) {
		x, code := impl.DecodeLeader(text)
		impl.DecodeLeader(leaderText(impl.Leader{Ver: 2, Owner: 1, Gen: 8}))
		if x2, code2 := impl.DecodeLeader(text); x2 != x || code2 != code {
			t.Errorf("another answer to alike arguments: %.80q", text)
		}
		if code != impl.OK && x != (impl.Leader{}) {
			t.Errorf("not zero with a code: %.80q %v", text, x)
		}
	}
}
