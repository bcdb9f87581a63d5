package tests

import (
	"math/rand"
	"slices"
	"strconv"
	"testing"

	"loop.example/g00456/impl"
)

// Promise 7: who is elected holds; a leader lets go of what it has, and nobody else does.

// leaderOn, blocksOn and electBy reckon as the document says, without the program.
func leaderOn(d impl.Disk, host int) impl.Leader {
	if x, ok := leaderBy(readBy(d, host, 0)); ok {
		return x
	}
	return impl.Leader{Owner: -1}
}

func blocksOn(d impl.Disk, host int) []impl.Block {
	out := make([]impl.Block, 4)
	for of := range out {
		if b, ok := blockBy(readBy(d, host, 1+of)); ok {
			out[of] = b
		}
	}
	return out
}

// electBy takes a right disk with room, a host, and an owner with a generation.
func electBy(d impl.Disk, host, owner, gen int) (impl.Disk, impl.Leader, int) {
	was, blocks := leaderOn(d, host), blocksOn(d, host)
	ver := was.Ver + 1
	ballot := nextBy(host, ver, blocks)
	if ver > 1000000 || ballot > 1000000 {
		return d, was, impl.ErrMany
	}
	p := impl.Px{Host: host, Ver: ver, Phase: 1, Ballot: ballot, Value: 1024*gen + owner}
	for p.Phase < 5 {
		writes := p.Phase == 1 || p.Phase == 3
		p, blocks = stepBy(p, blocks)
		if writes && p.Phase != 6 {
			d = putBy(d, host, 1+host, blockText(blocks[host]))
		}
	}
	chosen := impl.Leader{Ver: ver, Owner: p.Value % 1024, Gen: p.Value / 1024}
	if p.Phase == 6 || !rightLeader(chosen) {
		return d, was, impl.ErrAbort
	}
	return putBy(d, host, 0, leaderText(chosen)), chosen, impl.OK
}

// wantElected holds an election against the disk, leader and code that it must answer.
func wantElected(t *testing.T, where string, d impl.Disk, host, owner, gen int, want impl.Disk, leader impl.Leader, code int) {
	t.Helper()
	got, x, c := impl.Elect(d, host, owner, gen)
	if c != code || x != leader {
		t.Errorf("%s: Elect by %d of %d with %d: %v with code %d, not %v with %d", where, host, owner, gen, x, c, leader, code)
	}
	if !sameDisk(got, want) {
		t.Errorf("%s: Elect by %d of %d with %d (code %d): another disk: %q %v", where, host, owner, gen, c, got.Sectors[:min(5, len(got.Sectors))], got.Pending)
	}
}

// elected is an election that must be OK, as the document says it.
func elected(t *testing.T, d impl.Disk, host, owner, gen int) (impl.Disk, impl.Leader) {
	t.Helper()
	out, x, code := impl.Elect(d, host, owner, gen)
	wantOK(t, "Elect", code)
	want, leader, _ := electBy(d, host, owner, gen)
	if x != leader || !sameDisk(out, want) {
		t.Fatal("Elect", host, owner, gen, x, leader, out.Sectors[:5], out.Pending)
	}
	return out, x
}

func released(t *testing.T, d impl.Disk, x impl.Leader) (impl.Disk, impl.Leader) {
	t.Helper()
	out, y, code := impl.Release(d, x.Owner, x)
	wantOK(t, "Release", code)
	if want := (impl.Leader{Ver: x.Ver + 1, Owner: -1}); y != want || !sameDisk(out, putBy(d, x.Owner, 0, leaderText(want))) {
		t.Fatal("Release", x, y, out.Sectors[0], out.Pending)
	}
	return out, y
}

// wantLeader asks every host who leads, and whether it holds.
func wantLeader(t *testing.T, d impl.Disk, x impl.Leader) {
	t.Helper()
	for host := range 4 {
		if got, code := impl.ReadLeader(d, host); got != x || code != impl.OK {
			t.Errorf("host %d reads %v with code %d, not %v", host, got, code, x)
		}
		for _, gen := range []int{x.Gen, x.Gen - 1, x.Gen + 1, 0, 1, 1000000, -1, 1000001, least, greatest} {
			want := host == x.Owner && gen == x.Gen
			if holds, code := impl.Holds(d, host, gen); holds != want || code != impl.OK {
				t.Errorf("host %d holds with %d: %v with code %d, leader %v", host, gen, holds, code, x)
			}
		}
	}
}

func wantHeld(t *testing.T, where string, d impl.Disk, host int, x, leader impl.Leader, want int) {
	t.Helper()
	out, y, code := impl.Release(d, host, x)
	if code != want || y != leader || !sameDisk(out, d) {
		t.Errorf("%s: Release of %v by %d: %v with code %d, not %v with %d (%d sectors)", where, x, host, y, code, leader, want, len(out.Sectors))
	}
}

func TestP7NobodyLeadsANewDisk(t *testing.T) {
	wantLeader(t, emptyDisk(), impl.Leader{Owner: -1})
	for host := range 4 {
		wantHeld(t, "new disk", emptyDisk(), host, impl.Leader{Owner: -1}, impl.Leader{Owner: -1}, impl.ErrHeld)
		wantHeld(t, "new disk", emptyDisk(), host, impl.Leader{Ver: 1, Owner: host, Gen: 1}, impl.Leader{Owner: -1}, impl.ErrStale)
	}
}

func TestP7TheFirstElection(t *testing.T) {
	for host := range 4 {
		for owner := range 4 {
			for _, gen := range []int{1, 2, 5, 999999, 1000000} {
				x := impl.Leader{Ver: 1, Owner: owner, Gen: gen}
				want := emptyDisk()
				want.Sectors[0] = leaderText(x)
				want.Sectors[1+host] = blockText(impl.Block{Ver: 1, Mbal: 4 + host, Bal: 4 + host, Inp: 1024*gen + owner})
				wantElected(t, "empty", emptyDisk(), host, owner, gen, want, x, impl.OK)
				wantLeader(t, want, x)
			}
		}
	}
}

// otherWork does something that has no bearing on who leads.
func otherWork(t *testing.T, r *rand.Rand, d impl.Disk) impl.Disk {
	t.Helper()
	host := r.Intn(4)
	switch r.Intn(4) {
	case 0:
		d, _, code := impl.TakeDelta(d, host, r.Intn(1000))
		wantOK(t, "TakeDelta", code)
		return d
	case 1:
		return must(t)(impl.LoseHost(d, host, r.Intn(3)))
	case 2:
		return must(t)(impl.Flush(d, host))
	}
	return must(t)(impl.WriteSector(d, host, 9+r.Intn(55), "other"))
}

func TestP7ElectionsOneAfterAnother(t *testing.T) {
	for seed := range int64(60) {
		r, d, x, stale := rand.New(rand.NewSource(seed)), emptyDisk(), impl.Leader{Owner: -1}, impl.Leader{Ver: 7, Owner: 1, Gen: 1}
		for range 80 {
			switch was := x; r.Intn(5) {
			case 0, 1:
				owner, gen := r.Intn(4), 1+r.Intn(1000000)
				if d, x = elected(t, d, r.Intn(4), owner, gen); x != (impl.Leader{Ver: was.Ver + 1, Owner: owner, Gen: gen}) {
					t.Fatal("another one was elected:", was, x, owner, gen)
				}
				stale = was
			case 2:
				if x.Owner >= 0 {
					d, x = released(t, d, x)
					stale = was
				}
			case 3:
				d = otherWork(t, r, d)
			}
			wantLeader(t, d, x)
			for host := range 4 {
				if host != x.Owner {
					wantHeld(t, "another host", d, host, x, x, impl.ErrHeld)
				}
				wantHeld(t, "stale", d, host, stale, x, impl.ErrStale)
			}
		}
	}
}

// A host that begins is elected with its new generation: what it held with an elder one is over.
func TestP7HostsThatBeginAreElected(t *testing.T) {
	d := emptyDisk()
	for turn := range 24 {
		host := turn * 5 % 4
		out, own, code := impl.TakeDelta(d, host, 10*turn)
		wantOK(t, "TakeDelta", code)
		out, x := elected(t, out, host, host, own.Gen)
		if want := (impl.Leader{Ver: turn + 1, Owner: host, Gen: 1 + turn/4}); x != want {
			t.Fatal("Elect", turn, x, want)
		}
		wantLeader(t, out, x)
		for other := range 4 {
			if y, code := impl.ReadDelta(out, other, host); y != own || code != impl.OK {
				t.Error("ReadDelta", y, code)
			}
		}
		d = out
	}
}

// diskOf has a leader, and blocks of hosts as they stand in the list; a zero block leaves its sector empty.
func diskOf(x impl.Leader, blocks ...impl.Block) impl.Disk {
	d := emptyDisk()
	d.Sectors[0] = leaderText(x)
	for host, b := range blocks {
		if b != (impl.Block{}) {
			d.Sectors[1+host] = blockText(b)
		}
	}
	return d
}

func TestP7WhoWasChosenStays(t *testing.T) {
	was := impl.Leader{Ver: 6, Owner: 2, Gen: 3}
	const chosen = 1024*9 + 3
	for host := range 4 {
		for place := range 4 {
			blocks := make([]impl.Block, 4)
			blocks[place] = impl.Block{Ver: 7, Mbal: 12 + place, Bal: 12 + place, Inp: chosen}
			d := diskOf(was, blocks...)
			x := impl.Leader{Ver: 7, Owner: 3, Gen: 9}
			want := diskOf(x, blocks...)
			want.Sectors[1+host] = blockText(impl.Block{Ver: 7, Mbal: 16 + host, Bal: 16 + host, Inp: chosen})
			wantElected(t, "chosen", d, host, (host+1)%4, 5, want, x, impl.OK)
			wantLeader(t, want, x)
			// Behind it the next version is free.
			if _, y := elected(t, want, host, 0, 6); y != (impl.Leader{Ver: 8, Owner: 0, Gen: 6}) {
				t.Error("Elect", y)
			}
		}
	}
}

func TestP7OfSeveralTheOneOfTheGreatestBallotStays(t *testing.T) {
	was := impl.Leader{Ver: 6, Owner: -1}
	for _, bals := range [][]int{{4, 9, 10, 15}, {12, 9, 6, 3}, {8, 13, 2, 11}, {4, 0, 10, 0}, {0, 5, 0, 3}} {
		blocks, best := make([]impl.Block, 4), 0
		for host, bal := range bals {
			if bal > 0 {
				// A ballot that was begun, and not accepted in, does not count.
				blocks[host] = impl.Block{Ver: 7, Mbal: 20 + host, Bal: bal, Inp: 1024*(50+host) + host}
			} else {
				blocks[host] = impl.Block{Ver: 7, Mbal: 24 + host}
			}
			if bal > bals[best] {
				best = host
			}
		}
		for host := range 4 {
			if _, x := elected(t, diskOf(was, blocks...), host, host, 5); x != (impl.Leader{Ver: 7, Owner: best, Gen: 50 + best}) {
				t.Error("Elect", bals, host, x)
			}
		}
	}
}

func TestP7EarlierVersionsCountForNothing(t *testing.T) {
	for _, ver := range []int{0, 1, 5, 999998} {
		was := impl.Leader{Ver: ver + 1, Owner: -1}
		b := impl.Block{Ver: ver, Mbal: 1000000, Bal: 1000000, Inp: 1024*9 + 3}
		same := impl.Block{Ver: ver + 1, Mbal: 1000000, Bal: 999999, Inp: 1024*8 + 2}
		for host := range 4 {
			for _, old := range []impl.Block{b, same} {
				d := diskOf(was, old, old, old, old)
				x := impl.Leader{Ver: ver + 2, Owner: 1, Gen: 5}
				want := diskOf(x, old, old, old, old)
				want.Sectors[1+host] = blockText(impl.Block{Ver: ver + 2, Mbal: 4 + host, Bal: 4 + host, Inp: 1024*5 + 1})
				wantElected(t, "earlier", d, host, 1, 5, want, x, impl.OK)
			}
		}
	}
}

// What the host wrote ahead of the block that it gives way to stands on the disk; the leader is the one that was.
func TestP7LaterVersionsAbort(t *testing.T) {
	for _, was := range []impl.Leader{{Owner: -1}, {Ver: 6, Owner: 2, Gen: 3}, {Ver: 6, Owner: -1}, {Ver: 999998, Owner: 0, Gen: 1}} {
		for _, later := range []impl.Block{{Ver: was.Ver + 2}, {Ver: 1000000}, {Ver: was.Ver + 2, Mbal: 6, Bal: 5, Inp: 1024 + 1}} {
			for host := range 4 {
				for place := range 4 {
					blocks := make([]impl.Block, 4)
					blocks[place] = later
					d := diskOf(was, blocks...)
					d.Pending = []impl.Io{{Host: host, At: 40, Data: "its own"}, {Host: (host + 1) % 4, At: 41, Data: "another's"}}
					want := d
					if place != host {
						ballot := 4 + host + later.Mbal/4*4
						want = putBy(d, host, 1+host, blockText(impl.Block{Ver: was.Ver + 1, Mbal: ballot}))
					}
					wantElected(t, "later", d, host, host, 8, want, was, impl.ErrAbort)
					wantLeader(t, want, was)
				}
			}
		}
	}
}

func TestP7ValuesThatAreNoLeaders(t *testing.T) {
	was := impl.Leader{Ver: 6, Owner: 2, Gen: 3}
	for _, c := range []struct {
		value int
		right bool
	}{
		{1024, true}, {1024 + 3, true}, {1024*1000000 + 3, true}, {1024 * 1000000, true},
		{0, false}, {1, false}, {3, false}, {1023, false}, {1024 + 4, false}, {1024 + 1023, false}, {1024*1000000 + 4, false},
		{1024 * 1000001, false}, {1024*1000001 + 3, false}, {mostNumber, false}, {mostNumber - 1023, false},
	} {
		for host := range 4 {
			for place := range 4 {
				blocks := make([]impl.Block, 4)
				blocks[place] = impl.Block{Ver: 7, Mbal: 12, Bal: 5, Inp: c.value}
				x, code := was, impl.ErrAbort
				if c.right {
					x, code = impl.Leader{Ver: 7, Owner: c.value % 1024, Gen: c.value / 1024}, impl.OK
				}
				want := diskOf(x, blocks...)
				want.Sectors[1+host] = blockText(impl.Block{Ver: 7, Mbal: 16 + host, Bal: 16 + host, Inp: c.value})
				wantElected(t, "value "+strconv.Itoa(c.value), diskOf(was, blocks...), host, host, 8, want, x, code)
			}
		}
	}
}

func TestP7TheLastBallots(t *testing.T) {
	was := impl.Leader{Ver: 6, Owner: 2, Gen: 3}
	for _, c := range []struct {
		begun int
		// last is the last host with a ballot above it, -1 if there is none.
		last int
	}{{999991, 3}, {999992, 3}, {999995, 3}, {999996, 0}, {999997, 0}, {999999, 0}, {1000000, -1}} {
		for host := range 4 {
			for place := range 4 {
				blocks := make([]impl.Block, 4)
				blocks[place] = impl.Block{Ver: 7, Mbal: c.begun}
				d := diskOf(was, blocks...)
				if host <= c.last {
					_, x := elected(t, d, host, 1, 5)
					if x != (impl.Leader{Ver: 7, Owner: 1, Gen: 5}) {
						t.Error("Elect", c.begun, host, place, x)
					}
				} else {
					d.Pending = []impl.Io{{Host: host, At: 40, Data: "its own"}}
					wantElected(t, "last ballot", d, host, 1, 5, d, was, impl.ErrMany)
				}
				// A later version's ballots count as they are; there the ballot is told ahead of the version.
				blocks[place].Ver = 8
				if host > c.last {
					wantElected(t, "last ballot of a later version", diskOf(was, blocks...), host, 1, 5, diskOf(was, blocks...), was, impl.ErrMany)
				}
			}
		}
	}
}

func TestP7TheLastVersion(t *testing.T) {
	for host := range 4 {
		for _, was := range []impl.Leader{{Ver: 999999, Owner: host, Gen: 4}, {Ver: 999999, Owner: -1}} {
			d, x := elected(t, diskOf(was, impl.Block{Ver: 999999, Mbal: 1000000}), host, host, 5)
			if x != (impl.Leader{Ver: 1000000, Owner: host, Gen: 5}) {
				t.Error("Elect", x)
			}
			wantLeader(t, d, x)
		}
		for _, was := range []impl.Leader{{Ver: 1000000, Owner: host, Gen: 4}, {Ver: 1000000, Owner: 3 - host, Gen: 4}, {Ver: 1000000, Owner: -1}} {
			d := diskOf(was, impl.Block{Ver: 1000000, Mbal: 5, Bal: 5, Inp: 1024})
			d.Pending = []impl.Io{{Host: host, At: 40, Data: "its own"}, {Host: 3 - host, At: 41, Data: "another's"}}
			wantElected(t, "last version", d, host, host, 5, d, was, impl.ErrMany)
			want := impl.ErrHeld
			if was.Owner == host {
				want = impl.ErrMany
			}
			wantHeld(t, "last version", d, host, was, was, want)
		}
		last := impl.Leader{Ver: 999999, Owner: host, Gen: 1000000}
		d, x := released(t, diskOf(last), last)
		if x != (impl.Leader{Ver: 1000000, Owner: -1}) {
			t.Error("Release", x)
		}
		wantElected(t, "behind the last release", d, host, host, 5, d, x, impl.ErrMany)
	}
}

// halfElection runs a host's ballot on the disk for so many steps, and stops there, as one that dies would.
func halfElection(d impl.Disk, host, owner, gen, steps int) (impl.Disk, impl.Px) {
	blocks, ver := blocksOn(d, host), leaderOn(d, host).Ver+1
	p := impl.Px{Host: host, Ver: ver, Phase: 1, Ballot: nextBy(host, ver, blocks), Value: 1024*gen + owner}
	for range steps {
		p, blocks = stepBy(p, blocks)
		d = putBy(d, host, 1+host, blockText(blocks[host]))
	}
	return d, p
}

// Wherever a host stops, the next one's election ends; who may have been chosen, is.
func TestP7ElectionsBehindOneThatStopped(t *testing.T) {
	for _, was := range []impl.Leader{{Owner: -1}, {Ver: 4, Owner: 1, Gen: 2}} {
		for host := range 4 {
			for next := range 4 {
				for steps := range 9 {
					d, p := halfElection(diskOf(was), host, host, 7, steps)
					d, x := elected(t, d, next, next, 8)
					want := impl.Leader{Ver: was.Ver + 1, Owner: next, Gen: 8}
					if p.Phase > impl.PxWrite2 {
						want = impl.Leader{Ver: was.Ver + 1, Owner: host, Gen: 7}
					}
					if x != want {
						t.Error("Elect behind", steps, "steps:", host, next, x)
					}
					wantLeader(t, d, x)
				}
			}
		}
	}
}

// The host goes by what it reads itself: its own newest writes, not those of others that are not sure.
func TestP7AsTheHostReads(t *testing.T) {
	sure, own, others := impl.Leader{Ver: 4, Owner: 0, Gen: 1}, impl.Leader{Ver: 6, Owner: 1, Gen: 2}, impl.Leader{Ver: 9, Owner: 2, Gen: 3}
	d := diskOf(sure, impl.Block{}, impl.Block{Ver: 7, Mbal: 21, Bal: 21, Inp: 1024*40 + 2}, impl.Block{Ver: 5, Mbal: 2, Bal: 2, Inp: 1024*41 + 2})
	d.Pending = []impl.Io{
		{Host: 1, At: 0, Data: "an older one"},
		{Host: 2, At: 0, Data: leaderText(others)},
		{Host: 1, At: 2, Data: blockText(impl.Block{Ver: 7, Mbal: 9})},
		{Host: 1, At: 0, Data: leaderText(own)},
		{Host: 1, At: 4, Data: blockText(impl.Block{Ver: 7, Mbal: 11, Bal: 7, Inp: 1024*42 + 3})},
		{Host: 3, At: 0, Data: "none"},
		{Host: 2, At: 2, Data: "none"},
		{Host: 0, At: 1, Data: blockText(impl.Block{Ver: 8, Mbal: 8})},
	}
	for host, want := range []impl.Leader{sure, own, others, {Owner: -1}} {
		if x, code := impl.ReadLeader(d, host); x != want || code != impl.OK {
			t.Error("ReadLeader", host, x, code)
		}
		if holds, code := impl.Holds(d, host, want.Gen); holds != (host < 3) || code != impl.OK {
			t.Error("Holds", host, holds, code)
		}
	}
	// Host 1 sees what it put into host 3's place, of ballot 7; host 0 sees its own block, of version 8.
	if out, x := elected(t, d, 1, 0, 5); x != (impl.Leader{Ver: 7, Owner: 3, Gen: 42}) || len(out.Pending) != 4 {
		t.Error("Elect", x, out.Pending)
	}
	wantElected(t, "its own later block", d, 0, 0, 5, d, sure, impl.ErrAbort)
	if _, x := elected(t, d, 2, 0, 5); x != (impl.Leader{Ver: 10, Owner: 0, Gen: 5}) {
		t.Error("Elect", x)
	}
	want := putBy(d, 3, 4, blockText(impl.Block{Ver: 1, Mbal: 27}))
	wantElected(t, "later blocks", d, 3, 3, 5, want, impl.Leader{Owner: -1}, impl.ErrAbort)
	for host, x := range []impl.Leader{sure, own, others} {
		released(t, d, x)
		for other := range 4 {
			if other != host {
				wantHeld(t, "another one's", d, other, x, leaderOn(d, other), impl.ErrStale)
			}
		}
	}
}

// oddTexts are what may stand in a sector and is nothing there.
func oddTexts() []string {
	return slices.Concat(noLeaderTexts(), noBlockTexts(), []string{leaderText(impl.Leader{Ver: 3, Owner: 1, Gen: 4}), blockText(impl.Block{Ver: 2, Mbal: 9, Bal: 9, Inp: 1025})})
}

func TestP7SectorsThatHoldNothingRight(t *testing.T) {
	for _, text := range oddTexts() {
		for host := range 4 {
			if _, right := leaderBy(text); !right {
				d := emptyDisk()
				d.Sectors[0] = text
				wantLeader(t, d, impl.Leader{Owner: -1})
				wantHeld(t, "nobody", d, host, impl.Leader{Owner: -1}, impl.Leader{Owner: -1}, impl.ErrHeld)
				if _, x := elected(t, d, host, 2, 6); x != (impl.Leader{Ver: 1, Owner: 2, Gen: 6}) {
					t.Errorf("Elect over %q: %v", text, x)
				}
			}
			if _, right := blockBy(text); !right {
				d := emptyDisk()
				copy(d.Sectors[1:5], []string{text, text, text, text})
				out, x := elected(t, d, host, 2, 6)
				if b, ok := blockBy(out.Sectors[1+host]); !ok || b.Mbal != 4+host || x != (impl.Leader{Ver: 1, Owner: 2, Gen: 6}) {
					t.Errorf("Elect among %q: %v %v", text, x, b)
				}
			}
		}
	}
}

func hasWriteAt(d impl.Disk, host, at int) bool {
	return slices.ContainsFunc(d.Pending, func(w impl.Io) bool { return w.Host == host && w.At == at })
}

// leaderTexts and someBlockText are what may stand in a sector about a version: mostly right ones.
func leaderTexts(ver int) []string {
	return []string{"", "none", blockText(impl.Block{Ver: 1}), leaderText(impl.Leader{Ver: ver, Owner: -1}), leaderText(impl.Leader{Ver: max(ver, 1), Owner: 1, Gen: 3}), leaderText(impl.Leader{Ver: max(ver, 1), Owner: 3, Gen: 1000000})}
}

func someBlockText(r *rand.Rand, ver int) string {
	if odd := oddTexts(); r.Intn(6) == 0 {
		return odd[r.Intn(len(odd))]
	}
	b := impl.Block{Ver: min(max(ver+r.Intn(8)/3, 0), 1000000)}
	b.Mbal = []int{0, 3, 8, 8, 9, 30, 31, 999995, 999996, 1000000}[r.Intn(10-4*r.Intn(2))]
	if b.Mbal > 0 && r.Intn(3) > 0 {
		b.Bal = 1 + r.Intn(b.Mbal)
		b.Inp = []int{1024*9 + 3, 1024 * 4, 1024*1000000 + 2, 1024*5 + 4, 7, mostNumber}[r.Intn(6-3*r.Intn(2))]
	}
	return blockText(b)
}

func randomDisk(r *rand.Rand) impl.Disk {
	ver := []int{0, 1, 5, 999998, 999999, 1000000}[r.Intn(6)]
	texts, d := leaderTexts(ver), emptyDisk()
	some := func(at int) string {
		if at == 0 {
			return texts[r.Intn(len(texts))]
		}
		return someBlockText(r, ver)
	}
	for at := range 5 {
		d.Sectors[at] = some(at)
	}
	for range r.Intn(8) {
		at := r.Intn(5)
		d.Pending = append(d.Pending, impl.Io{Host: r.Intn(4), At: at, Data: some(at)})
	}
	if r.Intn(3) == 0 {
		d = filledUp(d, r.Intn(4), 196+r.Intn(4))
	}
	return d
}

func TestP7RandomDisksAreWhatTheDocumentSays(t *testing.T) {
	met := map[int]int{}
	for seed := range int64(4000) {
		r := rand.New(rand.NewSource(seed))
		d := randomDisk(r)
		for host := range 4 {
			owner, gen, was := r.Intn(4), 1+r.Intn(1000000), leaderOn(d, host)
			want, x, code := electBy(d, host, owner, gen)
			wantElected(t, "seed "+strconv.FormatInt(seed, 10), d, host, owner, gen, want, x, code)
			met[code]++
			if y, c := impl.ReadLeader(d, host); y != was || c != impl.OK {
				t.Error("ReadLeader", seed, host, y, c, was)
			}
			if holds, c := impl.Holds(d, host, 3); holds != (was.Owner == host && was.Gen == 3) || c != impl.OK {
				t.Error("Holds", seed, host, holds, c, was)
			}
			// Who was elected is the leader to the host, and to all who have nothing of their own there.
			for reader := range 4 {
				if y, _ := impl.ReadLeader(want, reader); code == impl.OK && y != x && (reader == host || !hasWriteAt(d, reader, 0)) {
					t.Error("ReadLeader behind Elect", seed, host, reader, y, x)
				}
			}
		}
		if t.Failed() {
			return
		}
	}
	for _, code := range []int{impl.OK, impl.ErrMany, impl.ErrAbort} {
		if met[code] < 500 {
			t.Error("few disks with code", code, met)
		}
	}
}
