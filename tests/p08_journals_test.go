package tests

import (
	"fmt"
	"math/rand"
	"slices"
	"strconv"
	"testing"

	"loop.example/g00456/impl"
)

// Promise 8: without a crash updates are applied; wherever a host crashes, behind a replay all are there or none, also if the replay crashes.

// agedDisk has an old text in each place of the image, and in each slot an empty head with elder texts behind it.
func agedDisk() impl.Disk {
	d := emptyDisk()
	for at := range 39 {
		d.Sectors[at] = "old " + strconv.Itoa(at)
	}
	for of := range 4 {
		d = waiting(d, of, 0, 2, []impl.Update{{At: 20, Data: "elder"}, {At: 9, Data: "elder"}, {At: 38, Data: "elder"}, {At: 10}, {At: 11}})
	}
	return d
}

// journalBases are disks on which nothing waits in a slot, with writes of none, of one and of all hosts that are not sure.
func journalBases() []namedDisk {
	busy := agedDisk()
	for i := range 12 {
		busy.Pending = append(busy.Pending, impl.Io{Host: i % 4, At: 1 + i%8, Data: "waits " + strconv.Itoa(i)})
	}
	one := agedDisk()
	one.Pending = []impl.Io{{Host: 2, At: 7, Data: "waits"}, {Host: 2, At: 0}}
	return []namedDisk{{"new", impl.NewDisk()}, {"aged", agedDisk()}, {"busy", busy}, {"one is busy", one}}
}

// imageWith is the image's places behind the updates.
func imageWith(d impl.Disk, list []impl.Update) []string {
	out := slices.Clone(d.Sectors[9:39])
	for _, u := range list {
		out[u.At-9] = u.Data
	}
	return out
}

// allOrNone tells whether all updates are there; if some alone are it is a fault.
func allOrNone(t *testing.T, where string, was, now impl.Disk, list []impl.Update) bool {
	t.Helper()
	all := slices.Equal(now.Sectors[9:39], imageWith(was, list))
	if !all && !slices.Equal(now.Sectors[9:39], was.Sectors[9:39]) {
		t.Fatalf("%s: neither all nor none of %v: %q", where, list, now.Sectors[9:39])
	}
	return all
}

func planned(t *testing.T, host, seq int, list []impl.Update) []impl.Move {
	t.Helper()
	plan, code := impl.JournalPlan(host, seq, list)
	wantOK(t, "JournalPlan", code)
	return plan
}

// replayed does what waits in a slot, and asks that nothing does behind it.
func replayed(t *testing.T, d impl.Disk, host, of int) impl.Disk {
	t.Helper()
	_, seq, code := impl.JournalOf(d, host, of)
	wantOK(t, "JournalOf", code)
	plan, code := impl.ReplayPlan(d, host, of)
	wantOK(t, "ReplayPlan", code)
	d = must(t)(impl.MovesDo(d, host, plan))
	for reader := range 4 {
		list, n, code := impl.JournalOf(d, reader, of)
		if len(list) != 0 || n != seq || code != impl.OK {
			t.Fatal("behind a replay waits", list, n, seq, code)
		}
	}
	return d
}

type crash struct {
	step, keep int
	disk       impl.Disk
}

// crashesOf are the unlike disks that come of a host that crashes behind each of a plan's moves, with each number of its writes that survive.
func crashesOf(t *testing.T, d impl.Disk, host int, plan []impl.Move) []crash {
	t.Helper()
	var out []crash
	met := map[string]bool{}
	for step := 0; step <= len(plan); step++ {
		at := wantMoved(t, "crash", d, host, plan[:step])
		count, code := impl.PendingOf(at, host)
		wantOK(t, "PendingOf", code)
		for keep := 0; keep <= count+1; keep++ {
			x := crash{step, keep, must(t)(impl.LoseHost(at, host, keep))}
			if key := fmt.Sprintf("%q %v", x.disk.Sectors, x.disk.Pending); !met[key] {
				met[key] = true
				out = append(out, x)
			}
		}
	}
	return out
}

// eachJournal runs f with each disk, host and list of updates, of one place each and of the same.
func eachJournal(f func(where string, d impl.Disk, host int, list []impl.Update)) {
	for _, base := range journalBases() {
		for host := range 4 {
			for size := range 6 {
				where := base.name + ", " + strconv.Itoa(size) + " updates by " + strconv.Itoa(host)
				f(where, base.disk, host, listOf(size, false))
				if size > 1 {
					f(where+", same place", base.disk, host, listOf(size, true))
				}
			}
		}
	}
}

func TestP8WithoutACrashUpdatesAreApplied(t *testing.T) {
	eachJournal(func(where string, d impl.Disk, host int, list []impl.Update) {
		for _, seq := range []int{0, 7, mostNumber} {
			got := wantMoved(t, where, d, host, planned(t, host, seq, list))
			if !slices.Equal(got.Sectors[9:39], imageWith(d, list)) {
				t.Errorf("%s: not applied: %q", where, got.Sectors[9:39])
			}
			if len(list) == 0 {
				if !sameDisk(got, d) {
					t.Error(where, "a plan of none did something")
				}
				continue
			}
			wantPendingOf(t, where, got, host, 0)
			for reader := range 4 {
				wantWaiting(t, where, got, reader, host, nil, seq)
			}
			for at := 39; at < 64; at++ {
				if (at < 39+6*host || at >= 45+6*host) && got.Sectors[at] != d.Sectors[at] {
					t.Error(where, "changed a sector that is not the slot's:", at)
				}
			}
		}
	})
}

func wantPendingOf(t *testing.T, where string, d impl.Disk, host, want int) {
	t.Helper()
	if got, code := impl.PendingOf(d, host); got != want || code != impl.OK {
		t.Error(where, "writes of", host, "that are not sure:", got, code)
	}
}

// The head decides: with it all are there behind a replay, without it none.
func TestP8AllOrNoneBehindACrash(t *testing.T) {
	eachJournal(func(where string, d impl.Disk, host int, list []impl.Update) {
		plan := planned(t, host, 7, list)
		none := 0
		for _, x := range crashesOf(t, d, host, plan) {
			where := where + ", crashed behind " + strconv.Itoa(x.step) + " with " + strconv.Itoa(x.keep)
			for other := range 4 {
				got := replayed(t, x.disk, other, host)
				all := allOrNone(t, where, d, got, list)
				if len(list) == 0 {
					continue
				}
				if early := x.step < len(list)+2; early && all {
					t.Error(where, "all are there ahead of the head")
				}
				if late := x.step > len(list)+2; late && !all {
					t.Error(where, "none is there behind the head")
				}
				none += numberOf(!all)
			}
		}
		if len(list) > 0 && none == 0 {
			t.Error(where, "no crash came ahead of the head")
		}
	})
}

func TestP8AllOrNoneIfTheReplayCrashes(t *testing.T) {
	torn := 0
	eachJournal(func(where string, d impl.Disk, host int, list []impl.Update) {
		for _, x := range crashesOf(t, d, host, planned(t, host, 7, list)) {
			for other := range 4 {
				waits, _, _ := impl.JournalOf(x.disk, other, host)
				plan, code := impl.ReplayPlan(x.disk, other, host)
				wantOK(t, where, code)
				was := allOrNone(t, where, d, replayed(t, x.disk, other, host), list)
				for _, y := range crashesOf(t, x.disk, other, plan) {
					torn += numberOf(y.step > 0 && y.step < len(plan))
					third := (other + 1 + y.step) % 4
					if got := allOrNone(t, where, d, replayed(t, y.disk, third, host), list); got != was || len(waits) > 0 && !got {
						t.Fatal(where, "a replay that crashed changed what comes of it:", x.step, x.keep, y.step, y.keep)
					}
				}
			}
		}
	})
	if torn < 1000 {
		t.Error("few replays crashed in their midst:", torn)
	}
}

// A replay that crashes again and again comes to its end when one does not.
func TestP8ManyReplaysCrash(t *testing.T) {
	list := listOf(5, false)
	for host := range 4 {
		d := waiting(agedDisk(), host, 5, 7, list)
		for turn := range 40 {
			other := (host + turn) % 4
			plan, code := impl.ReplayPlan(d, other, host)
			wantOK(t, "ReplayPlan", code)
			// The last two moves, the head and its flush, are never come to.
			d = must(t)(impl.MovesDo(d, other, plan[:turn%7]))
			d = must(t)(impl.LoseHost(d, other, turn%6))
			wantWaiting(t, "again and again", d, (other+1)%4, host, list, 7)
			if got := replayed(t, d, turn%4, host); !allOrNone(t, "again and again", agedDisk(), got, list) {
				t.Error("none is there, though all waited")
			}
		}
	}
}

// An elder journal's texts stand in the slot still: what is torn of a new one never mixes with them.
func TestP8AJournalBehindAnElderOne(t *testing.T) {
	for host := range 4 {
		for size := 1; size <= 5; size++ {
			elder := slices.Repeat([]impl.Update{{At: 12, Data: "elder"}}, size)
			d := wantMoved(t, "elder", agedDisk(), host, planned(t, host, 6, elder))
			for count := 1; count <= 5; count++ {
				list := listOf(count, false)
				for _, x := range crashesOf(t, d, host, planned(t, host, 7, list)) {
					list2, seq, code := impl.JournalOf(x.disk, host, host)
					if code != impl.OK || len(list2) > 0 && (seq != 7 || !slices.Equal(list2, list)) {
						t.Fatal("JournalOf", list2, seq, code)
					}
					allOrNone(t, "behind an elder one", d, replayed(t, x.disk, (host+1)%4, host), list)
				}
			}
		}
	}
}

// ownPlaces are updates of places that are the host's alone.
func ownPlaces(r *rand.Rand, host, round int) []impl.Update {
	var out []impl.Update
	for range 1 + r.Intn(5) {
		out = append(out, impl.Update{At: 9 + host + 4*r.Intn(7), Data: fmt.Sprint("host ", host, " round ", round, " ", r.Intn(9))})
	}
	return out
}

// ownAll tells whether all updates of a host are there, held against its own places alone.
func ownAll(t *testing.T, was, now impl.Disk, host int, list []impl.Update) bool {
	t.Helper()
	all, none, want := true, true, imageWith(was, list)
	for at := 9 + host; at < 9+28; at += 4 {
		all = all && now.Sectors[at] == want[at-9]
		none = none && now.Sectors[at] == was.Sectors[at]
	}
	if !all && !none {
		t.Fatal("neither all nor none of host", host, list)
	}
	return all
}

// Hosts go on move by move in whatever order, crash or come to their ends; one of the others replays all slots, perhaps not to its end, then another one does.
func TestP8JournalsSideBySide(t *testing.T) {
	met := [2]int{}
	for seed := range int64(400) {
		r, d := rand.New(rand.NewSource(seed)), agedDisk()
		for round := range 4 {
			was := cloneDisk(d)
			var lists [4][]impl.Update
			var plans [4][]impl.Move
			for host := range 4 {
				lists[host] = ownPlaces(r, host, round)
				plans[host] = planned(t, host, round, lists[host])
			}
			for range r.Intn(60) {
				if host := r.Intn(4); len(plans[host]) > 0 {
					d = wantMoved(t, "side by side", d, host, plans[host][:1])
					plans[host] = plans[host][1:]
				}
			}
			for host := range 4 {
				d = must(t)(impl.LoseHost(d, host, r.Intn(4)))
			}
			first, second := r.Intn(4), r.Intn(4)
			for _, of := range r.Perm(4)[:r.Intn(5)] {
				plan, code := impl.ReplayPlan(d, first, of)
				wantOK(t, "ReplayPlan", code)
				d = must(t)(impl.MovesDo(d, first, plan[:r.Intn(len(plan)+1)]))
			}
			d = must(t)(impl.LoseHost(d, first, r.Intn(4)))
			for _, of := range r.Perm(4) {
				d = replayed(t, d, second, of)
			}
			for host := range 4 {
				met[numberOf(ownAll(t, was, d, host, lists[host]))]++
			}
		}
	}
	if met[0] < 500 || met[1] < 500 {
		t.Error("few journals of one sort:", met)
	}
}

// Journals of random hosts, one after another: each is applied, or all or none of it is behind a replay.
func TestP8JournalsOneAfterAnother(t *testing.T) {
	for seed := range int64(100) {
		r, d := rand.New(rand.NewSource(seed)), impl.NewDisk()
		for turn := range 40 {
			was, host := cloneDisk(d), r.Intn(4)
			var list []impl.Update
			for i := range r.Intn(6) {
				list = append(list, impl.Update{At: 9 + r.Intn(30), Data: fmt.Sprint("turn ", turn, " ", i)})
			}
			plan := planned(t, host, turn, list)
			if r.Intn(3) == 0 {
				d = wantMoved(t, "one after another", d, host, plan)
				if !slices.Equal(d.Sectors[9:39], imageWith(was, list)) {
					t.Fatal("not applied:", list)
				}
				continue
			}
			d = must(t)(impl.MovesDo(d, host, plan[:r.Intn(len(plan)+1)]))
			d = must(t)(impl.LoseHost(d, host, r.Intn(7)))
			d = replayed(t, d, r.Intn(4), host)
			allOrNone(t, "one after another", was, d, list)
			if len(d.Pending) != 0 {
				t.Fatal("writes are left that are not sure:", d.Pending)
			}
		}
	}
}
