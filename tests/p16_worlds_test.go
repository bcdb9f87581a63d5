package tests

import (
	"fmt"
	"math/rand"
	"slices"
	"strings"
	"testing"

	"loop.example/g00456/impl"
)

// Promise 16, of what worlds are, who may write in one, and whether it agrees; p16_reckoning_test.go says what it is held against.

type namedWorld struct {
	name  string
	world impl.World
}

// workedWorld has host 1 open since time 20, a snapshot, and values.
func workedWorld() impl.World {
	return behind(newWorldBy(plainConfig(), 4), ticksAct(20), openAct(1), reqAct(1, writeReq(1, 5)), reqAct(1, createReq("s")), reqAct(1, writeReq(1, 6)), reqAct(1, writeReq(3, 7)))
}

// livedWorlds are what comes of acts.
func livedWorlds() []namedWorld {
	base := workedWorld()
	out := []namedWorld{{"worked", base}}
	for _, size := range []int{0, 1, 4, 12} {
		out = append(out, namedWorld{fmt.Sprint("new of ", size), newWorldBy(plainConfig(), size)})
	}
	add := func(name string, list ...impl.Act) {
		out = append(out, namedWorld{name, behind(base, list...)})
	}
	add("a tick ahead of the fence", ticksAct(9))
	add("at the fence", ticksAct(10))
	add("renewed", ticksAct(9), renewAct(1), ticksAct(9))
	add("closed", closeAct(1))
	add("closed, and opened by another", ticksAct(3), closeAct(1), openAct(3))
	add("closed, and opened again", closeAct(1), openAct(1))
	add("a tick ahead of seeming dead", ticksAct(59))
	add("seeming dead", ticksAct(60))
	add("taken over", ticksAct(60), openAct(2))
	add("taken over, and fenced at last", ticksAct(60), openAct(2), renewAct(1))
	add("taken over twice", ticksAct(60), openAct(2), ticksAct(60), openAct(0), reqAct(0, writeReq(0, 1)))
	add("taken over from one that crashed", crashAct(1, 5, 0, writeReq(0, 8)), ticksAct(60), openAct(0))
	add("late", ticksAct(100000), openAct(1))
	for _, step := range []int{0, 1, 3, 4, 5, 6, 7, 8, 9, 100} {
		for _, keep := range []int{0, 1, 2, 100} {
			add(fmt.Sprint("crashed in step ", step, " with ", keep), crashAct(1, step, keep, writeReq(0, 8)))
		}
		add(fmt.Sprint("crashed in step ", step, ", dead"), crashAct(1, step, 0, impl.Req{Kind: 6, Name: "s"}), ticksAct(60))
		add(fmt.Sprint("crashed in step ", step, ", opened again"), crashAct(1, step, 1, impl.Req{Kind: 4, G: 2}), openAct(1))
	}
	add("crashed in what is refused", crashAct(1, 0, 0, impl.Req{Kind: 1, G: 4}))
	full := worldOfImage(usedUpBySnaps())
	out = append(out, namedWorld{"full", full}, namedWorld{"full, open", behind(full, openAct(2))},
		namedWorld{"full, crashed", behind(full, openAct(2), crashAct(2, 2, 2, writeReq(0, 7)))})
	for _, m := range []impl.Image{sharing(), usedUp(), imageOf(nil, nil, nil, nil)} {
		out = append(out, namedWorld{"of an image", behind(worldOfImage(m), openAct(0))})
	}
	least, most := impl.Config{Fail: 1, Dead: 4}, impl.Config{Fail: 10000, Dead: 100000, Delay: 1000, Drift: 500}
	return append(out,
		namedWorld{"a short lease", behind(newWorldBy(least, 2), openAct(3))},
		namedWorld{"a long lease", behind(newWorldBy(most, 2), openAct(3), ticksAct(9999))},
		namedWorld{"at the end of time", worldLike(behind(base, ticksAct(5)), func(w *impl.World) { w.Time = 1000000 })})
}

// mended is base with one thing set right or wrong.
func mended(name string, base impl.World, change func(w *impl.World)) namedWorld {
	return namedWorld{name, worldLike(base, change)}
}

// oddWorlds are right, but no acts lead to them.
func oddWorlds() []namedWorld {
	var out []namedWorld
	base := behind(workedWorld(), ticksAct(5))
	dead := behind(base, ticksAct(60))
	free := behind(base, closeAct(1))
	add := func(name string, change func(w *impl.World)) {
		out = append(out, mended(name, base, change), mended(name+", dead", dead, change), mended(name+", free", free, change))
	}
	for at := range 64 {
		add(fmt.Sprint("a broken sector ", at), func(w *impl.World) { w.Disk.Sectors[at] = "x" })
		add(fmt.Sprint("an empty sector ", at), func(w *impl.World) { w.Disk.Sectors[at] = "" })
	}
	for _, x := range []impl.Leader{{Owner: -1}, {Ver: 90, Owner: -1}, {Ver: 90, Owner: 0, Gen: 1}, {Ver: 2, Owner: 1, Gen: 2}, {Ver: 999999, Owner: 1, Gen: 1}, {Ver: 1000000, Owner: 1, Gen: 1}, {Ver: 1000000, Owner: -1}, {Ver: 5, Owner: 3, Gen: 1000000}} {
		add(fmt.Sprint("another leader ", x), func(w *impl.World) { w.Disk.Sectors[0] = leaderText(x) })
	}
	for _, b := range []impl.Block{{Ver: 2, Mbal: 6, Bal: 6, Inp: 1024*9 + 3}, {Ver: 3, Mbal: 6, Bal: 6, Inp: 1024*9 + 3}, {Ver: 2, Mbal: 8, Bal: 4, Inp: 1024 + 1}, {Ver: 2, Mbal: 8, Bal: 4, Inp: 1024*2 + 1}, {Ver: 2, Mbal: 1000000}, {Ver: 3, Mbal: 999996}, {Ver: 9}, {Ver: 1000000, Mbal: 7, Bal: 7, Inp: 7}, {Ver: 2, Mbal: 5, Bal: 5, Inp: 7}} {
		for _, host := range []int{0, 3} {
			add(fmt.Sprint("a block of host ", host, " ", b), func(w *impl.World) { w.Disk.Sectors[1+host] = blockText(b) })
		}
	}
	for _, x := range []impl.Delta{{Host: 2, Gen: 1, Stamp: 20}, {Host: 1, Gen: 1, Stamp: 0}, {Host: 1, Gen: 1, Stamp: 25}, {Host: 1, Gen: 1, Stamp: 26}, {Host: 1, Gen: 2, Stamp: 20}, {Host: 1, Gen: 1, Stamp: 100}, {Host: 1, Gen: 1, Stamp: 10000000}, {Host: 1, Gen: 999999, Stamp: 20}, {Host: 1, Gen: 1000000, Stamp: 20}} {
		add(fmt.Sprint("another generation ", x), func(w *impl.World) { w.Disk.Sectors[6] = deltaText(x.Host, x.Gen, x.Stamp) })
	}
	add("last generations of all", func(w *impl.World) {
		for host := range 4 {
			w.Disk.Sectors[5+host] = deltaText(host, 1000000, 1)
		}
	})
	for _, h := range []impl.Host{{State: 1}, {State: 1, Gen: 2, Renewed: 20}, {State: 1, Gen: 1, Renewed: 15}, {State: 1, Gen: 1, Renewed: 16}, {State: 1, Gen: 1, Renewed: 25}, {State: 1, Gen: 1000000, Renewed: 25}, {State: 2, Gen: 1, Renewed: 20}, {Gen: 1, Renewed: 20}, {State: 1, Gen: 1}} {
		add(fmt.Sprint("another host ", h), func(w *impl.World) { w.Hosts[1] = h })
		add(fmt.Sprint("all are hosts ", h), func(w *impl.World) { w.Hosts = slices.Repeat([]impl.Host{h}, 4) })
	}
	add("it does not agree", func(w *impl.World) { w.Agree = false })
	add("another guest", func(w *impl.World) { w.Guest.Values[0] = 9 })
	add("a guest without its shot", func(w *impl.World) { w.Guest.Shots = nil })
	for _, q := range []impl.Req{writeReq(3, 7), writeReq(0, 1), writeReq(9, 9), {Kind: 1}, {Kind: 8}, createReq("t"), {Kind: 6, Name: "none"}} {
		add("maybe "+named(q), func(w *impl.World) { w.Maybe = q })
		add("maybe, ahead of it, "+named(q), func(w *impl.World) { w.Maybe, w.Guest.Values[3] = q, 0 })
	}
	return append(out, waitingWorlds(base)...)
}

// waitingWorlds have journals in one slot or two, of changes of the image; those of the second one lie over those of the first.
func waitingWorlds(base impl.World) []namedWorld {
	var out []namedWorld
	for name, world := range map[string]impl.World{"alive": base, "dead": behind(base, ticksAct(60)), "free": behind(base, closeAct(1))} {
		first, _, _ := changesBy(world, 0, writeReq(0, 50))
		second, _, _ := changesBy(world, 0, writeReq(0, 60))
		third, _, _ := changesBy(world, 0, impl.Req{Kind: 4, G: 12})
		for of := range 4 {
			for other := range 4 {
				out = append(out, mended(fmt.Sprint(name, ", journals of ", of, " and ", other), world, func(w *impl.World) {
					w.Disk = waiting(waiting(w.Disk, of, len(first), 5, first), other, len(second), 6, second)
				}))
			}
			out = append(out,
				mended(fmt.Sprint(name, ", a resize by ", of), world, func(w *impl.World) { w.Disk = waiting(w.Disk, of, len(third), 7, third) }),
				mended(fmt.Sprint(name, ", a journal of ", of, " that breaks the image"), world, func(w *impl.World) {
					w.Disk = waiting(w.Disk, of, 1, 7, []impl.Update{{At: 9, Data: "broken"}})
				}),
				mended(fmt.Sprint(name, ", a broken update of ", of), world, func(w *impl.World) {
					w.Disk = waiting(w.Disk, of, 2, 7, first)
					w.Disk.Sectors[41+6*of] = "broken"
				}),
				mended(fmt.Sprint(name, ", a head of six of ", of), world, func(w *impl.World) { w.Disk.Sectors[39+6*of] = sealed(7, []int{6, 1}) }))
		}
	}
	slices.SortFunc(out, func(a, b namedWorld) int { return strings.Compare(a.name, b.name) })
	return out
}

func exampleWorlds() []namedWorld {
	return append(livedWorlds(), oddWorlds()...)
}

// changedWorld is a right world with one random thing changed; it is right still.
func changedWorld(r *rand.Rand, w impl.World) impl.World {
	host, was := r.Intn(4), w
	w = cloneWorld(w)
	switch r.Intn(11) {
	case 0:
		texts := leaderTexts(1 + r.Intn(4))
		w.Disk.Sectors[0] = texts[r.Intn(len(texts))]
	case 1:
		w.Disk.Sectors[1+host] = someBlockText(r, leaderIn(w).Ver+1)
	case 2:
		w.Disk.Sectors[5+host] = deltaText(host, 1+r.Intn(3), max(w.Time-w.Config.Dead-1+r.Intn(3), 0))
	case 3:
		w.Disk.Sectors[r.Intn(64)] = []string{"", "x", sealed(4, []int{7}), headText(0, 3)}[r.Intn(4)]
	case 4, 5:
		if list, _, code := changesBy(w, host, anyReq(r)); code == impl.OK {
			w.Disk = waiting(w.Disk, r.Intn(4), len(list), r.Intn(100), list)
		}
	case 6:
		w.Hosts[host] = impl.Host{State: r.Intn(3), Gen: r.Intn(3), Renewed: max(w.Time-w.Config.Fail-1+r.Intn(3), 0)}
	case 7:
		w.Guest, _ = guestDoneBy(w.Guest, anyReq(r))
	case 8:
		w.Maybe = anyReq(r)
	case 9:
		w.Time = min(w.Time+r.Intn(70), 1000000)
	case 10:
		w.Config = []impl.Config{{Fail: 1, Dead: 4}, {Fail: 10, Dead: 60, Delay: 2, Drift: 10}, {Fail: 20, Dead: 90, Delay: 5, Drift: 100}}[r.Intn(3)]
	}
	if !rightWorld(w) {
		return was
	}
	return w
}

// wrongWorlds are not right in one way each, the last ones in several.
func wrongWorlds() []namedWorld {
	var out []namedWorld
	base := behind(workedWorld(), ticksAct(5))
	add := func(name string, change func(w *impl.World)) {
		out = append(out, mended(name, base, change))
	}
	for _, d := range wrongDisks() {
		add("disk: "+d.name, func(w *impl.World) { w.Disk = cloneDisk(d.disk) })
	}
	for host := range 4 {
		add("a write that is not sure", func(w *impl.World) { w.Disk.Pending = []impl.Io{{Host: host, At: 63 - host, Data: "x"}} })
	}
	add("200 writes that are not sure", func(w *impl.World) { w.Disk.Pending = fullDisk().Pending })
	for _, c := range append(wrongConfigs(), impl.Config{}, impl.Config{Fail: 10, Dead: 14, Delay: 2, Drift: 10}, impl.Config{Fail: 60, Dead: 60}) {
		add(fmt.Sprint("config ", c), func(w *impl.World) { w.Config = c })
	}
	for _, n := range []int{0, 1, 3, 5, 8, 256, impl.MaxList, impl.MaxList + 1} {
		add(fmt.Sprint(n, " hosts"), func(w *impl.World) { w.Hosts = make([]impl.Host, n) })
	}
	for host := range 4 {
		for _, n := range []int{-1, 3, 4, 256, 1 << 32, 1<<32 + 1, least, greatest} {
			add(fmt.Sprint("state ", n, " of ", host), func(w *impl.World) { w.Hosts[host].State = n })
		}
		for _, n := range []int{-1, 1000001, 1 << 32, 1<<32 + 1, least, greatest} {
			add(fmt.Sprint("generation ", n, " of ", host), func(w *impl.World) { w.Hosts[host].Gen = n })
		}
		for _, n := range []int{-1, 26, 27, 1000000, 1000001, 1<<32 + 1, least, greatest} {
			add(fmt.Sprint("renewed at ", n, ", ", host), func(w *impl.World) { w.Hosts[host].Renewed = n })
		}
	}
	for _, n := range []int{-1, 1000001, 10000000, 1<<32 + 30, least, greatest} {
		add(fmt.Sprint("time ", n), func(w *impl.World) { w.Time = n })
	}
	add("a time below what was renewed", func(w *impl.World) { w.Time = 19 })
	add("time and renewed above the bound", func(w *impl.World) { w.Time, w.Hosts[2].Renewed = 1000001, 1000001 })
	add("time and renewed below 0", func(w *impl.World) { w.Time, w.Hosts[1].Renewed = -1, -1 })
	for _, g := range fewWrongGuests() {
		add("guest", func(w *impl.World) { w.Guest = cloneGuest(g) })
	}
	for _, q := range wrongReqs() {
		if q != (impl.Req{}) {
			add("maybe "+named(q), func(w *impl.World) { w.Maybe = q })
		}
	}
	out = append(out, namedWorld{"zero", impl.World{}}, namedWorld{"zero, but that it agrees", impl.World{Agree: true}})
	add("all of it", func(w *impl.World) {
		*w = impl.World{Disk: fullDisk(), Config: impl.Config{Fail: -1}, Hosts: []impl.Host{{State: 9, Gen: -1, Renewed: greatest}}, Time: least, Guest: fewWrongGuests()[0], Maybe: impl.Req{Kind: 9}, Agree: true}
	})
	add("a disk and a guest", func(w *impl.World) { w.Disk.Pending, w.Guest.Values = make([]impl.Io, 1), make([]int, 13) })
	add("hosts and a configuration", func(w *impl.World) { w.Hosts, w.Config.Drift = nil, 501 })
	add("time and maybe", func(w *impl.World) { w.Time, w.Maybe.G = 1000001, 1 })
	return out
}

// fewWrongWorlds are one of each sort.
func fewWrongWorlds() []impl.World {
	var out []impl.World
	seen := map[string]int{}
	for _, w := range wrongWorlds() {
		sort, _, _ := strings.Cut(w.name, " ")
		if seen[sort]++; seen[sort] <= 2 {
			out = append(out, w.world)
		}
	}
	return out
}

func TestP16ReckoningIsRight(t *testing.T) {
	for _, w := range exampleWorlds() {
		if !rightWorld(w.world) {
			t.Error("an example is not right:", w.name)
		}
	}
	for _, w := range wrongWorlds() {
		if rightWorld(w.world) {
			t.Error("a wrong one is right:", w.name)
		}
	}
	for _, w := range livedWorlds() {
		if len(writersBy(w.world)) > 1 || !agreesBy(w.world) {
			t.Error("acts lead to it, and it has not what is promised:", w.name)
		}
	}
}

func TestP16Constants(t *testing.T) {
	for i, got := range []int{impl.HoClosed, impl.HoOpen, impl.HoDead} {
		if got != i {
			t.Error("state", i, "is", got)
		}
	}
	for i, got := range []int{impl.AcOpen, impl.AcReq, impl.AcCrash, impl.AcClose, impl.AcRenew, impl.AcTicks} {
		if got != i+1 {
			t.Error("kind", i+1, "is", got)
		}
	}
	if impl.MaxActs != 80 {
		t.Error("MaxActs", impl.MaxActs)
	}
}

func TestP16WhichWorldsAreRight(t *testing.T) {
	for _, w := range exampleWorlds() {
		if !impl.WorldOK(w.world) {
			t.Error("it is right:", w.name)
		}
	}
	for _, w := range wrongWorlds() {
		if impl.WorldOK(w.world) {
			t.Error("it is not right:", w.name)
		}
	}
}

// Each bound, just within it.
func TestP16WorldsAtTheirBounds(t *testing.T) {
	base := behind(workedWorld(), ticksAct(5))
	for i, w := range []impl.World{
		worldLike(base, func(w *impl.World) { w.Time = 1000000 }),
		worldLike(base, func(w *impl.World) { w.Time, w.Hosts[0].Renewed = 1000000, 1000000 }),
		worldLike(base, func(w *impl.World) { w.Hosts[3] = impl.Host{State: 2, Gen: 1000000, Renewed: 25} }),
		worldLike(base, func(w *impl.World) { w.Hosts = make([]impl.Host, 4) }),
		worldLike(base, func(w *impl.World) { w.Time, w.Hosts[1].Renewed = 0, 0 }),
		worldLike(base, func(w *impl.World) { w.Maybe = impl.Req{Kind: 5, Name: strings.Repeat("a", 65536)} }),
		worldLike(base, func(w *impl.World) { w.Maybe = impl.Req{Kind: 1, G: least} }),
		worldLike(base, func(w *impl.World) { w.Guest = fullGuest() }),
		worldLike(base, func(w *impl.World) { w.Guest = impl.Guest{} }),
		worldLike(base, func(w *impl.World) { w.Disk = emptyDisk() }),
		worldLike(base, func(w *impl.World) { w.Disk.Sectors = slices.Repeat([]string{strings.Repeat("s", 80)}, 64) }),
		worldLike(base, func(w *impl.World) { w.Disk.Pending = []impl.Io{} }),
	} {
		if !impl.WorldOK(w) || !rightWorld(w) {
			t.Error("it is right:", i)
		}
	}
}

func TestP16NewWorlds(t *testing.T) {
	met := map[bool]int{}
	for _, c := range slices.Concat(edgeConfigs(), wrongConfigs(), []impl.Config{{}, {Fail: 1, Dead: 4}, {Fail: 1, Dead: 3}}) {
		met[rightBy(c)]++
		for size := range 13 {
			w, code := impl.NewWorld(c, size)
			if !rightBy(c) {
				wantWorld(t, fmt.Sprint("NewWorld of ", c), w, code, impl.World{}, impl.ErrBad)
				continue
			}
			wantWorld(t, fmt.Sprint("NewWorld of ", c, " and ", size), w, code, newWorldBy(c, size), impl.OK)
			if !impl.WorldOK(w) {
				t.Error("it is not right:", c, size)
			}
			wantAgrees(t, "new", w, true)
			wantWriters(t, "new", w)
		}
		for _, size := range noSizes() {
			want := impl.ErrRange
			if !rightBy(c) {
				want = impl.ErrBad
			}
			w, code := impl.NewWorld(c, size)
			wantWorld(t, fmt.Sprint("NewWorld of ", c, " and ", size), w, code, impl.World{}, want)
		}
	}
	if met[true] < 10 || met[false] < 10 {
		t.Error("few of one sort:", met)
	}
}

// wantWriters asks of each host whether it may write; the hosts are those that may.
func wantWriters(t *testing.T, where string, w impl.World, hosts ...int) {
	t.Helper()
	for host := range 4 {
		if may, code := impl.MayWrite(w, host); may != slices.Contains(hosts, host) || code != impl.OK {
			t.Errorf("%s: MayWrite of %d: %v with code %d", where, host, may, code)
		}
	}
}

func TestP16WhoMayWrite(t *testing.T) {
	met := map[int]int{}
	for _, w := range exampleWorlds() {
		writers := writersBy(w.world)
		wantWriters(t, w.name, w.world, writers...)
		met[len(writers)]++
	}
	if met[0] < 50 || met[1] < 50 {
		t.Error("few of one sort:", met)
	}
}

func TestP16WhoMayWriteByHand(t *testing.T) {
	base := workedWorld()
	at := func(time int) impl.World { return worldLike(base, func(w *impl.World) { w.Time = time }) }
	wantWriters(t, "just open", at(20), 1)
	wantWriters(t, "Fail - 1 behind Renewed", at(29), 1)
	wantWriters(t, "Fail behind Renewed", at(30))
	wantWriters(t, "Fail + 1 behind Renewed", at(31))
	wantWriters(t, "at the end of time", at(1000000))
	as := func(host int, h impl.Host) impl.World {
		return worldLike(base, func(w *impl.World) { w.Hosts[host] = h })
	}
	wantWriters(t, "another generation", as(1, impl.Host{State: 1, Gen: 2, Renewed: 20}))
	wantWriters(t, "no generation", as(1, impl.Host{State: 1, Renewed: 20}))
	wantWriters(t, "closed", as(1, impl.Host{State: 0, Gen: 1, Renewed: 20}))
	wantWriters(t, "dead", as(1, impl.Host{State: 2, Gen: 1, Renewed: 20}))
	wantWriters(t, "another one thinks so, too", as(2, impl.Host{State: 1, Gen: 1, Renewed: 20}), 1)
	led := func(x impl.Leader) impl.World {
		return worldLike(base, func(w *impl.World) { w.Disk.Sectors[0] = leaderText(x) })
	}
	wantWriters(t, "nobody leads", led(impl.Leader{Ver: 1, Owner: -1}))
	wantWriters(t, "another one leads", led(impl.Leader{Ver: 2, Owner: 2, Gen: 1}))
	wantWriters(t, "another version", led(impl.Leader{Ver: 1000000, Owner: 1, Gen: 1}), 1)
	wantWriters(t, "nobody leads, and hosts have no generation", worldLike(led(impl.Leader{Ver: 1, Owner: -1}), func(w *impl.World) {
		w.Hosts = slices.Repeat([]impl.Host{{State: 1, Renewed: 20}}, 4)
	}))
	wantWriters(t, "the leader's sector is broken", worldLike(base, func(w *impl.World) { w.Disk.Sectors[0] = "x" }))
	// Neither the image nor the generation on the disk has a say in it.
	wantWriters(t, "no image", worldLike(base, func(w *impl.World) { w.Disk.Sectors[9] = "x" }), 1)
	wantWriters(t, "no generation on the disk", worldLike(base, func(w *impl.World) { w.Disk.Sectors[6] = "x" }), 1)
	wantWriters(t, "it does not agree", worldLike(base, func(w *impl.World) { w.Agree = false }), 1)
}

func TestP16WhoMayWriteOfNoHostAndNoWorld(t *testing.T) {
	for _, host := range anyHosts() {
		want := impl.OK
		if host < 0 || host > 3 {
			want = impl.ErrRange
		}
		for _, w := range livedWorlds() {
			if may, code := impl.MayWrite(w.world, host); code != want || may && code != impl.OK {
				t.Error("MayWrite", w.name, host, may, code)
			}
		}
		for _, w := range wrongWorlds() {
			if may, code := impl.MayWrite(w.world, host); code != impl.ErrBad || may {
				t.Error("MayWrite", w.name, host, may, code)
			}
		}
	}
}

func TestP16WhetherAWorldAgrees(t *testing.T) {
	met := map[bool]int{}
	for _, w := range exampleWorlds() {
		wantAgrees(t, w.name, w.world, agreesBy(w.world))
		met[agreesBy(w.world)]++
	}
	for _, w := range wrongWorlds() {
		if ok, code := impl.WorldAgrees(w.world); ok || code != impl.ErrBad {
			t.Error("WorldAgrees", w.name, ok, code)
		}
	}
	if met[true] < 50 || met[false] < 50 {
		t.Error("few of one sort:", met)
	}
}

func TestP16WhetherAWorldAgreesByHand(t *testing.T) {
	base := workedWorld()
	with := func(change func(w *impl.World)) impl.World { return worldLike(base, change) }
	wantAgrees(t, "as it is", base, true)
	wantAgrees(t, "Agree", with(func(w *impl.World) { w.Agree = false }), false)
	wantAgrees(t, "a value", with(func(w *impl.World) { w.Guest.Values[1] = 5 }), false)
	wantAgrees(t, "a shot's value", with(func(w *impl.World) { w.Guest.Shots[0].Values[1] = 6 }), false)
	wantAgrees(t, "a shot's name", with(func(w *impl.World) { w.Guest.Shots[0].Name = "t" }), false)
	wantAgrees(t, "a size", with(func(w *impl.World) { w.Guest.Values = append(w.Guest.Values, 0) }), false)
	for _, at := range []int{9, 10, 11, 12, 15, 16} {
		wantAgrees(t, "no image", with(func(w *impl.World) { w.Disk.Sectors[at] = "x" }), false)
		wantAgrees(t, "no image, and maybe", with(func(w *impl.World) { w.Disk.Sectors[at], w.Maybe = "x", writeReq(0, 1) }), true)
	}
	wantAgrees(t, "data that is no other's", with(func(w *impl.World) { w.Disk.Sectors[38] = "x" }), true)
	wantAgrees(t, "maybe", with(func(w *impl.World) { w.Guest.Values[1], w.Maybe = 5, writeReq(0, 1) }), true)
	wantAgrees(t, "maybe, and Agree", with(func(w *impl.World) { w.Agree, w.Maybe = false, writeReq(0, 1) }), false)
	// What waits in a slot is not shown yet.
	wantAgrees(t, "a journal", with(func(w *impl.World) {
		list, _, _ := changesBy(*w, 1, writeReq(0, 9))
		w.Disk = waiting(w.Disk, 1, len(list), 0, list)
	}), true)
}
