package tests

import (
	"fmt"
	"math/rand"
	"slices"
	"strings"
	"testing"

	"loop.example/g00456/impl"
)

// Promise 16, of single acts; p16_reckoning_test.go says what they are held against.

// worldReqs are right requests of each kind, some of which are refused, change nothing or change much.
func worldReqs() []impl.Req {
	return []impl.Req{
		{Kind: 1, G: 1}, {Kind: 1, G: 99}, writeReq(0, 9), writeReq(1, 6), writeReq(3, mostNumber), writeReq(0, -1), {Kind: 3, G: 1}, {Kind: 3, G: -1},
		{Kind: 4, G: 4}, {Kind: 4, G: 12}, {Kind: 4}, {Kind: 4, G: 13}, createReq("new"), createReq("s"), createReq("A"), createReq(strings.Repeat("a", 65536)),
		{Kind: 6, Name: "s"}, {Kind: 6, Name: "a"}, {Kind: 6, Name: "none"}, {Kind: 7, Name: "s"}, {Kind: 7, Name: "b"}, {Kind: 7}, {Kind: 8},
	}
}

// actsIn are right acts that fit a world, and those at its bounds.
func actsIn(w impl.World) []impl.Act {
	out := []impl.Act{ticksAct(0), ticksAct(1), ticksAct(w.Config.Fail), ticksAct(w.Config.Dead), ticksAct(100000), {Kind: 6, Host: 3, Step: 100, Keep: 100, N: 5}}
	if left := 1000000 - w.Time; left < 100000 {
		out = append(out, ticksAct(left), ticksAct(left+1))
	}
	for host := range 4 {
		out = append(out, openAct(host), closeAct(host), renewAct(host), impl.Act{Kind: 1, Host: host, Step: 7, Keep: 9, N: 100000})
		for i, q := range worldReqs() {
			out = append(out, reqAct(host, q), crashAct(host, i%16, i%4, q), crashAct(host, 5, 1, q))
		}
		for _, step := range []int{0, 1, 3, 4, 5, 6, 9, 10, 100} {
			for _, keep := range []int{0, 1, 3, 100} {
				out = append(out, crashAct(host, step, keep, writeReq(0, 9)))
			}
		}
	}
	return out
}

// wrongActs are not right in one way each, the last ones in several.
func wrongActs() []impl.Act {
	q := writeReq(0, 9)
	out := []impl.Act{{}, {Req: q}}
	for _, n := range []int{-1, 0, 7, 8, 256, 257, 1<<32 + 1, least, greatest} {
		out = append(out, impl.Act{Kind: n}, impl.Act{Kind: n, Req: q})
	}
	wrong := func(change func(a *impl.Act, n int), numbers ...int) {
		for _, n := range append(numbers, -1, 1<<32, 1<<32+1, least, greatest) {
			for _, a := range []impl.Act{openAct(1), reqAct(1, q), crashAct(1, 4, 4, q), closeAct(1), renewAct(1), ticksAct(5)} {
				change(&a, n)
				out = append(out, a)
			}
		}
	}
	wrong(func(a *impl.Act, n int) { a.Host = n }, 4, 5, 256)
	wrong(func(a *impl.Act, n int) { a.Step = n }, 101, 102, 256)
	wrong(func(a *impl.Act, n int) { a.Keep = n }, 101, 200)
	wrong(func(a *impl.Act, n int) { a.N = n }, 100001, 1000000)
	wrong(func(a *impl.Act, n int) { a.Host, a.Step, a.Keep, a.N = n, n, n, n })
	for _, kind := range []int{1, 4, 5, 6} {
		for _, req := range append(worldReqs(), wrongReqs()...) {
			if req != (impl.Req{}) {
				out = append(out, impl.Act{Kind: kind, Host: 1, Req: req})
			}
		}
	}
	for _, req := range wrongReqs() {
		out = append(out, reqAct(1, req), crashAct(1, 4, 4, req))
	}
	return append(out, reqAct(1, impl.Req{}), crashAct(1, 0, 0, impl.Req{}), impl.Act{Kind: 9, Host: 9, Step: -9, Keep: 999, N: -9, Req: impl.Req{Kind: 9}})
}

func wantNotActed(t *testing.T, where string, w impl.World, a impl.Act) {
	t.Helper()
	got, r, code := impl.WorldDo(w, a)
	wantWorld(t, where, got, code, impl.World{}, impl.ErrBad)
	if !sameReply(r, impl.Reply{}) {
		t.Errorf("%s: a reply, %v", where, r)
	}
}

func TestP16ActsOnAllSortsOfWorlds(t *testing.T) {
	met := map[int]map[int]int{}
	for _, w := range exampleWorlds() {
		for _, a := range actsIn(w.world) {
			if !rightAct(a) {
				t.Fatal("it is right:", a)
			}
			next, _, code := wantActed(t, w.name, w.world, a)
			if !impl.WorldOK(next) {
				t.Error(w.name, "is not right any more:", actText(a))
			}
			if met[a.Kind] == nil {
				met[a.Kind] = map[int]int{}
			}
			met[a.Kind][code]++
		}
		if t.Failed() {
			return
		}
	}
	wantCodesMet(t, met)
}

// wantCodesMet asks for each code that the chapter tells of a kind of act, and for no other. ErrMany of a request or a crash is none of them: no request changes more than four sectors.
func wantCodesMet(t *testing.T, met map[int]map[int]int) {
	t.Helper()
	asked := []int{impl.OK, impl.ErrClosed, impl.ErrFenced, impl.ErrStale}
	for kind, want := range map[int][]int{
		1: {impl.OK, impl.ErrOpen, impl.ErrHeld, impl.ErrMany, impl.ErrAbort, impl.ErrBroken},
		2: append(slices.Clone(asked), impl.ErrBroken),
		3: append(slices.Clone(asked), impl.ErrBroken),
		4: append(slices.Clone(asked), impl.ErrMany),
		5: asked,
		6: {impl.OK, impl.ErrRange},
	} {
		for _, code := range want {
			if met[kind][code] == 0 {
				t.Error("acts of kind", kind, "never answered", code)
			}
		}
		if len(met[kind]) != len(want) {
			t.Error("acts of kind", kind, "answered other codes:", met[kind])
		}
	}
}

func TestP16ActsOnWorldsMadeAtRandom(t *testing.T) {
	r := rand.New(rand.NewSource(160))
	lived, met := livedWorlds(), map[int]int{}
	for range 6000 {
		w := lived[r.Intn(len(lived))].world
		for range 1 + r.Intn(4) {
			w = changedWorld(r, w)
		}
		wantAgrees(t, "random", w, agreesBy(w))
		wantWriters(t, "random", w, writersBy(w)...)
		for range 5 {
			next, _, code := wantActed(t, "random", w, anyAct(r, w))
			met[code]++
			w = next
		}
		if t.Failed() {
			t.Fatalf("random: %v", w)
		}
	}
	for _, code := range []int{impl.OK, impl.ErrOpen, impl.ErrHeld, impl.ErrClosed, impl.ErrFenced, impl.ErrStale, impl.ErrBroken, impl.ErrMany, impl.ErrAbort} {
		if met[code] < 10 {
			t.Error("never, or nearly never, answered:", code, met)
		}
	}
}

// anyAct is a right one, more often than not of a host that may write.
func anyAct(r *rand.Rand, w impl.World) impl.Act {
	a := impl.Act{Kind: 1 + r.Intn(6), Host: r.Intn(4)}
	if writers := writersBy(w); len(writers) > 0 && r.Intn(4) > 0 {
		a.Host = writers[0]
	}
	switch a.Kind {
	case 2:
		a.Req = anyReq(r)
	case 3:
		a.Req, a.Step, a.Keep = anyReq(r), r.Intn(18), r.Intn(7)
		if r.Intn(8) == 0 {
			a.Step, a.Keep = 100, 100
		}
	case 6:
		a.N = []int{0, 1, w.Config.Fail - 1, w.Config.Fail, w.Config.Dead - 1, w.Config.Dead}[r.Intn(6)]
		a.N = min(a.N, 100000, 1000000-w.Time)
	}
	return a
}

// A host opens, works, renews and closes; another one opens at once, and sees all that was done.
func TestP16OneAfterAnother(t *testing.T) {
	w, code := impl.NewWorld(plainConfig(), 4)
	wantOK(t, "NewWorld", code)
	for turn := range 12 {
		host := turn * 3 % 4
		w = wantActs(t, w, []impl.Act{openAct(host)})
		wantWriters(t, "open", w, host)
		if x := (impl.Host{State: 1, Gen: 1 + turn/4, Renewed: w.Time}); w.Hosts[host] != x {
			t.Fatal("it is open:", w.Hosts[host], x)
		}
		for g, value := range w.Guest.Values {
			next, r, code := impl.WorldDo(w, reqAct(host, impl.Req{Kind: 1, G: g}))
			if r.Value != value || code != impl.OK || !alikeWorlds(next, w) {
				t.Error("it sees", r, "with code", code, "not", value)
			}
		}
		w = wantActs(t, w, []impl.Act{reqAct(host, writeReq(turn%4, 100+turn)), ticksAct(9), renewAct(host), ticksAct(9), reqAct(host, createReq("a")), reqAct(host, writeReq((turn+1)%4, turn)), reqAct(host, impl.Req{Kind: 6, Name: "a"}), closeAct(host)})
		wantWriters(t, "closed", w)
		wantAgrees(t, "closed", w, true)
		if want := []int{turn, 100 + turn}; w.Guest.Values[(turn+1)%4] != want[0] || w.Guest.Values[turn%4] != want[1] {
			t.Error("it was not done:", w.Guest)
		}
		if x := leaderIn(w); x != (impl.Leader{Ver: 2*turn + 2, Owner: -1}) || w.Hosts[host].State != 0 {
			t.Error("it was not closed:", x, w.Hosts)
		}
	}
}

// The edges of a lease: its end, and when its host seems dead.
func TestP16Leases(t *testing.T) {
	for _, c := range []impl.Config{plainConfig(), {Fail: 1, Dead: 4}, {Fail: 2, Dead: 42, Delay: 20, Drift: 500}, {Fail: 10000, Dead: 100000, Delay: 1000, Drift: 500}} {
		for renewed, base := range []impl.World{
			behind(newWorldBy(c, 3), ticksAct(7), openAct(1), reqAct(1, writeReq(0, 5))),
			behind(newWorldBy(c, 3), ticksAct(7), openAct(1), reqAct(1, writeReq(0, 5)), ticksAct(c.Fail-1), renewAct(1)),
		} {
			where := fmt.Sprint(c, ", renewed ", renewed, " times")
			stamp := base.Hosts[1].Renewed
			at := func(n int) impl.World { return worldLike(base, func(w *impl.World) { w.Time = stamp + n }) }
			asks := []impl.Act{reqAct(1, writeReq(0, 6)), crashAct(1, 0, 0, writeReq(0, 6)), closeAct(1), renewAct(1)}
			for _, a := range asks {
				wantActs(t, at(c.Fail-1), []impl.Act{a})
				w := wantActs(t, at(c.Fail), []impl.Act{a}, impl.ErrFenced)
				wantWorld(t, where+": fenced", w, impl.OK, withState(at(c.Fail), 1, 0), impl.OK)
				// It is the leader still: the others wait, it may open again itself.
				wantActs(t, w, append([]impl.Act{a, openAct(2)}, openAct(1)), impl.ErrClosed, impl.ErrHeld, impl.OK)
			}
			wantWriters(t, where, at(c.Fail-1), 1)
			wantWriters(t, where, at(c.Fail))
			for _, host := range []int{0, 2, 3} {
				for _, n := range []int{0, c.Fail - 1, c.Fail, c.Dead - 1} {
					wantActs(t, at(n), []impl.Act{openAct(host)}, impl.ErrHeld)
				}
				for _, n := range []int{c.Dead, c.Dead + 1} {
					w := wantActs(t, at(n), []impl.Act{openAct(host), reqAct(host, impl.Req{Kind: 1})})
					wantWriters(t, where, w, host)
					if w.Hosts[1].State != 1 || w.Guest.Values[0] != 5 {
						t.Error("nobody closes it but itself:", w.Hosts, w.Guest)
					}
					// The old one finds out when it asks, and not by the leader alone.
					wantActs(t, w, []impl.Act{openAct(1), renewAct(1), renewAct(1), openAct(1)}, impl.ErrOpen, impl.ErrFenced, impl.ErrClosed, impl.ErrHeld)
				}
			}
			for _, n := range []int{0, c.Fail - 1, c.Fail, c.Dead - 1, c.Dead} {
				wantActs(t, at(n), []impl.Act{openAct(1)}, impl.ErrOpen)
			}
		}
	}
}

// Time over counts ahead of another leader; both close it.
func TestP16FencedOrStale(t *testing.T) {
	base := behind(workedWorld(), ticksAct(9))
	for _, x := range []impl.Leader{{Ver: 1, Owner: -1}, {Ver: 9, Owner: 2, Gen: 1}, {Ver: 9, Owner: 1, Gen: 2}} {
		stale := worldLike(base, func(w *impl.World) { w.Disk.Sectors[0] = leaderText(x) })
		for _, a := range []impl.Act{reqAct(1, writeReq(0, 6)), crashAct(1, 9, 9, writeReq(0, 6)), closeAct(1), renewAct(1)} {
			w := wantActs(t, stale, []impl.Act{a}, impl.ErrStale)
			wantWorld(t, "stale", w, impl.OK, withState(stale, 1, 0), impl.OK)
			wantActs(t, w, []impl.Act{a}, impl.ErrClosed)
			both := behind(stale, ticksAct(1))
			w = wantActs(t, both, []impl.Act{a}, impl.ErrFenced)
			wantWorld(t, "both", w, impl.OK, withState(both, 1, 0), impl.OK)
		}
	}
}

// Who is not open is asked in vain, and stays as it is: a dead one is dead.
func TestP16WhoIsNotOpen(t *testing.T) {
	for _, state := range []int{0, 2} {
		w := withState(workedWorld(), 1, state)
		for host := range 4 {
			for _, a := range []impl.Act{reqAct(host, writeReq(0, 6)), crashAct(host, 9, 9, writeReq(0, 6)), closeAct(host), renewAct(host)} {
				got := wantActs(t, w, []impl.Act{a}, impl.ErrClosed)
				wantWorld(t, "not open", got, impl.OK, w, impl.OK)
			}
		}
	}
}

// The leader itself does not wait for anything: fenced, closed or dead it opens again, with the next generation.
func TestP16WhoOpensAgain(t *testing.T) {
	base := workedWorld()
	for name, w := range map[string]impl.World{
		"dead":           behind(base, crashAct(1, 3, 0, writeReq(0, 6))),
		"dead for long":  behind(base, crashAct(1, 3, 0, writeReq(0, 6)), ticksAct(100000)),
		"fenced":         behind(base, ticksAct(10), renewAct(1)),
		"closed":         behind(base, closeAct(1)),
		"closed at once": withState(base, 1, 0),
	} {
		got := wantActs(t, w, []impl.Act{openAct(1), reqAct(1, writeReq(0, 9))})
		if want := (impl.Host{State: 1, Gen: 2, Renewed: w.Time}); got.Hosts[1] != want {
			t.Error(name, got.Hosts[1], want)
		}
		wantWriters(t, name, got, 1)
		wantAgrees(t, name, got, true)
	}
	got := wantActs(t, base, []impl.Act{openAct(1)}, impl.ErrOpen)
	wantWorld(t, "open", got, impl.OK, base, impl.OK)
}

// A leader without a right generation counts as of hour 0; with one that is still to come it does not seem dead.
func TestP16LeadersWithoutAGeneration(t *testing.T) {
	with := func(time int, text string) impl.World {
		return worldLike(workedWorld(), func(w *impl.World) { w.Time, w.Disk.Sectors[6] = time, text })
	}
	for _, text := range []string{"", "x", deltaText(2, 1, 50), deltaText(1, 0, 50), deltaText(1, 1000001, 50), sealed(9, []int{1, 1}), sealed(6, []int{1, 1, 50})} {
		wantActs(t, with(59, text), []impl.Act{openAct(2)}, impl.ErrHeld)
		wantWriters(t, "taken over", wantActs(t, with(60, text), []impl.Act{openAct(2)}), 2)
		// The host itself begins with its first one again.
		w := wantActs(t, withState(with(59, text), 1, 0), []impl.Act{openAct(1)})
		if w.Hosts[1].Gen != 1 || deltaOn(w.Disk, 1) != (impl.Delta{Host: 1, Gen: 1, Stamp: 59}) {
			t.Error("the first generation:", w.Hosts[1], deltaOn(w.Disk, 1))
		}
		// To renew what is not there is nothing.
		was := with(25, text)
		wantWorld(t, "renew", wantActs(t, was, []impl.Act{renewAct(1)}, impl.ErrStale), impl.OK, was, impl.OK)
	}
	for _, c := range []struct{ stamp, time, want int }{
		{100, 99, impl.ErrHeld}, {100, 20, impl.ErrHeld}, {100, 159, impl.ErrHeld}, {100, 160, impl.OK},
		{10000000, 1000000, impl.ErrHeld}, {999940, 1000000, impl.OK}, {999941, 1000000, impl.ErrHeld}, {0, 60, impl.OK}, {0, 59, impl.ErrHeld},
	} {
		wantActs(t, with(c.time, deltaText(1, 1, c.stamp)), []impl.Act{openAct(2)}, c.want)
		// Whatever generation it has.
		wantActs(t, with(c.time, deltaText(1, 9, c.stamp)), []impl.Act{openAct(2)}, c.want)
	}
}

// Nobody leads: whoever comes first opens, whatever time it is and whoever was open.
func TestP16NobodyLeads(t *testing.T) {
	for _, text := range []string{"", "x", leaderText(impl.Leader{Ver: 7, Owner: -1}), sealed(6, []int{0, 2, 1}), sealed(7, []int{1, 2, 1})} {
		// Without ballots: there is none that an earlier leader of these versions was elected in.
		base := worldLike(workedWorld(), func(w *impl.World) {
			copy(w.Disk.Sectors, []string{text, "", "", "", ""})
		})
		for host := range 4 {
			if host == 1 {
				wantActs(t, base, []impl.Act{openAct(1)}, impl.ErrOpen)
				continue
			}
			w := wantActs(t, base, []impl.Act{openAct(host), reqAct(host, impl.Req{Kind: 8})})
			wantWriters(t, "nobody led", w, host)
			wantActs(t, w, []impl.Act{reqAct(1, impl.Req{Kind: 8})}, impl.ErrStale)
		}
	}
}

// A leader's sector that was lost: the ballot of its version is there still, and who was elected in it is elected again, an elder generation of a host's own, too.
func TestP16TheLeadersSectorIsLost(t *testing.T) {
	lost := worldLike(workedWorld(), func(w *impl.World) { w.Disk.Sectors[0] = "" })
	for host := range 4 {
		was := withState(lost, host, 0)
		w := wantActs(t, was, []impl.Act{openAct(host)}, impl.ErrHeld)
		if leaderIn(w) != (impl.Leader{Ver: 1, Owner: 1, Gen: 1}) || !slices.Equal(w.Hosts, was.Hosts) {
			t.Error("host 1 is elected again:", leaderIn(w), w.Hosts)
		}
		if host != 1 {
			wantWriters(t, "elected again", w, 1)
			wantActs(t, w, []impl.Act{openAct(host), ticksAct(60), openAct(host)}, impl.ErrHeld)
			continue
		}
		// With the generation that it has now it is elected in the next version.
		wantWriters(t, "elected again", w)
		wantWriters(t, "elected anew", wantActs(t, w, []impl.Act{openAct(1)}), 1)
	}
}

// Another one's value may have been accepted in a ballot of the next version: it is elected, and who opens is told so.
func TestP16AnotherOneIsElected(t *testing.T) {
	free := behind(workedWorld(), closeAct(1))
	for _, chosen := range []impl.Leader{{Ver: 3, Owner: 3, Gen: 9}, {Ver: 3, Owner: 2, Gen: 5}, {Ver: 3, Owner: 1, Gen: 1}} {
		w := worldLike(free, func(w *impl.World) {
			w.Disk.Sectors[1] = blockText(impl.Block{Ver: 3, Mbal: 8, Bal: 8, Inp: 1024*chosen.Gen + chosen.Owner})
		})
		got := wantActs(t, w, []impl.Act{openAct(2)}, impl.ErrHeld)
		if leaderIn(got) != chosen || deltaOn(got.Disk, 2).Gen != 1 {
			t.Error("the disk is as far as it came:", leaderIn(got), deltaOn(got.Disk, 2))
		}
		got.Disk = w.Disk
		wantWorld(t, "all but the disk", got, impl.OK, w, impl.OK)
	}
}

// Generations and versions at their greatest: with TakeDelta's code the world is as it was, with Elect's the disk is as far as it came.
func TestP16TheLastGenerationsAndVersions(t *testing.T) {
	free := behind(workedWorld(), closeAct(1))
	with := func(at int, text string) impl.World {
		return worldLike(free, func(w *impl.World) { w.Disk.Sectors[at] = text })
	}
	last := with(7, deltaText(2, 1000000, 3))
	wantWorld(t, "the last generation", wantActs(t, last, []impl.Act{openAct(2)}, impl.ErrMany), impl.OK, last, impl.OK)
	w := wantActs(t, with(7, deltaText(2, 999999, 3)), []impl.Act{openAct(2), renewAct(2), closeAct(2), openAct(2)}, impl.OK, impl.OK, impl.OK, impl.ErrMany)
	if w.Hosts[2] != (impl.Host{Gen: 1000000, Renewed: 20}) {
		t.Error("the last generation:", w.Hosts[2])
	}
	for code, was := range map[int][]impl.World{
		impl.ErrMany: {
			with(0, leaderText(impl.Leader{Ver: 1000000, Owner: -1})),
			with(1, blockText(impl.Block{Ver: 3, Mbal: 1000000})),
			with(3, blockText(impl.Block{Ver: 5, Mbal: 1000000})),
		},
		impl.ErrAbort: {
			with(1, blockText(impl.Block{Ver: 4})), with(3, blockText(impl.Block{Ver: 1000000})),
			with(4, blockText(impl.Block{Ver: 3, Mbal: 5, Bal: 5, Inp: 7})),
		},
	} {
		for i, w := range was {
			got := wantActs(t, w, []impl.Act{openAct(2)}, code)
			if deltaOn(got.Disk, 2) != (impl.Delta{Host: 2, Gen: 1, Stamp: 20}) || leaderIn(got) != leaderIn(w) {
				t.Error("the disk is as far as it came:", code, i, deltaOn(got.Disk, 2), leaderIn(got))
			}
			got.Disk = w.Disk
			wantWorld(t, "all but the disk", got, impl.OK, w, impl.OK)
		}
	}
	// The last version can be held, but not let go of.
	w = wantActs(t, with(0, leaderText(impl.Leader{Ver: 999999, Owner: -1})), []impl.Act{openAct(2), reqAct(2, writeReq(0, 5))})
	wantWorld(t, "the last version", wantActs(t, w, []impl.Act{closeAct(2)}, impl.ErrMany), impl.OK, w, impl.OK)
	wantWriters(t, "the last version", w, 2)
	w = wantActs(t, with(0, leaderText(impl.Leader{Ver: 999998, Owner: -1})), []impl.Act{openAct(2), closeAct(2), openAct(2)}, impl.OK, impl.OK, impl.ErrMany)
	wantWriters(t, "the last version, free", w)
}

// A slot with a journal that is not right: the leader's that was, host 0's if it was nobody, and the host's own are looked at, no other.
func TestP16JournalsThatAreNotRight(t *testing.T) {
	dead := behind(workedWorld(), ticksAct(60))
	free := behind(workedWorld(), closeAct(1))
	for _, c := range []struct {
		name   string
		world  impl.World
		leader int
	}{{"dead", dead, 1}, {"free", free, 0}} {
		for host := range 4 {
			if c.world.Hosts[host].State == 1 {
				continue
			}
			for of := range 4 {
				for _, list := range [][]string{{"x"}, {sealed(7, []int{6, 1})}, {headText(1, 1), "x"}, {headText(2, 1), updateText(impl.Update{At: 9, Data: "y"}), "x"}} {
					w := worldLike(c.world, func(w *impl.World) { copy(w.Disk.Sectors[39+6*of:], list) })
					want := impl.OK
					if of == c.leader || of == host {
						want = impl.ErrBroken
					}
					got := wantActs(t, w, []impl.Act{openAct(host)}, want)
					if want == impl.OK {
						continue
					}
					// Nothing of a broken journal is done, and the host leads, but is not open.
					if !slices.Equal(got.Disk.Sectors[9:], w.Disk.Sectors[9:]) || leaderIn(got).Owner != host {
						t.Error(c.name, "the disk is as far as it came:", host, of, leaderIn(got))
					}
					got.Disk = w.Disk
					wantWorld(t, "all but the disk", got, impl.OK, w, impl.OK)
				}
			}
		}
	}
}

// The leader's journal is done ahead of the host's own, also if that one is broken; both are done ahead of the image, also if that is broken.
func TestP16ReplaysInTheirOrder(t *testing.T) {
	dead := behind(workedWorld(), ticksAct(60))
	first, _, _ := changesBy(dead, 2, writeReq(0, 50))
	second, _, _ := changesBy(dead, 2, writeReq(0, 60))
	nobody := leaderText(impl.Leader{Ver: 2, Owner: -1})
	both := worldLike(dead, func(w *impl.World) {
		w.Disk = waiting(waiting(w.Disk, 1, len(first), 5, first), 2, len(second), 6, second)
	})
	for name, c := range map[string]struct {
		change func(w *impl.World)
		host   int
		value  int
		code   int
	}{
		"both":                     {func(w *impl.World) {}, 2, 60, impl.OK},
		"another's own is empty":   {func(w *impl.World) {}, 3, 50, impl.OK},
		"the host's is broken":     {func(w *impl.World) { w.Disk.Sectors[51] = "x" }, 2, 50, impl.ErrBroken},
		"the leader's is broken":   {func(w *impl.World) { w.Disk.Sectors[45] = "x" }, 2, 0, impl.ErrBroken},
		"nobody led":               {func(w *impl.World) { w.Disk.Sectors[0] = nobody }, 2, 60, impl.OK},
		"nobody led, another":      {func(w *impl.World) { w.Disk.Sectors[0] = nobody }, 3, 0, impl.OK},
		"nobody led, it is host 0": {func(w *impl.World) { w.Disk.Sectors[0] = nobody; w.Disk = waiting(w.Disk, 0, len(first), 7, first) }, 3, 50, impl.OK},
	} {
		got := wantActs(t, worldLike(both, c.change), []impl.Act{openAct(c.host)}, c.code)
		m, ok := imageOn(got.Disk, 0)
		if !ok || shownBy(m, m.Table)[0] != c.value {
			t.Error(name, "the image shows", m, "not", c.value)
		}
		// What is shown is not what the guest has, but where nothing was done.
		if c.code == impl.OK && got.Agree != (c.value == 0) {
			t.Error(name, "Agree is", got.Agree)
		}
	}
	broken := worldLike(both, func(w *impl.World) { w.Disk.Sectors[12] = "x" })
	got := wantActs(t, broken, []impl.Act{openAct(2)}, impl.ErrBroken)
	for _, of := range []int{1, 2} {
		if list, _, ok := journalBy(got.Disk, 0, of); !ok || len(list) > 0 {
			t.Error("it was not done:", of, list)
		}
	}
	got.Disk = broken.Disk
	wantWorld(t, "all but the disk", got, impl.OK, broken, impl.OK)
}

// An image that is not right: who opens is told so behind all else, requests and crashes are not done, and a host may close or renew.
func TestP16ImagesThatAreNotRight(t *testing.T) {
	base := workedWorld()
	for _, at := range []int{9, 10, 11, 12, 15, 16} {
		w := worldLike(base, func(w *impl.World) { w.Disk.Sectors[at] = "x" })
		for _, a := range []impl.Act{reqAct(1, impl.Req{Kind: 8}), crashAct(1, 0, 0, impl.Req{Kind: 8}), reqAct(1, writeReq(0, 1)), crashAct(1, 100, 100, writeReq(9, 9))} {
			wantWorld(t, "broken", wantActs(t, w, []impl.Act{a}, impl.ErrBroken), impl.OK, w, impl.OK)
		}
		got := wantActs(t, w, []impl.Act{renewAct(1), closeAct(1), openAct(3)}, impl.OK, impl.OK, impl.ErrBroken)
		if got.Hosts[3] != (impl.Host{}) || leaderIn(got) != (impl.Leader{Ver: 3, Owner: 3, Gen: 1}) {
			t.Error("it leads, but is not open:", got.Hosts, leaderIn(got))
		}
		// So the others wait until it seems dead, and it does not.
		wantActs(t, got, []impl.Act{openAct(0), openAct(3), ticksAct(60), openAct(0)}, impl.ErrHeld, impl.ErrBroken, impl.OK, impl.ErrBroken)
	}
}

// What a host knows of its generation is what it opened and renewed with.
func TestP16Renewals(t *testing.T) {
	base := behind(workedWorld(), ticksAct(5))
	got := wantActs(t, base, []impl.Act{renewAct(1)})
	want := worldLike(base, func(w *impl.World) {
		w.Hosts[1].Renewed = 25
		w.Disk.Sectors[6] = deltaText(1, 1, 25)
	})
	wantWorld(t, "renewed", got, impl.OK, want, impl.OK)
	wantWorld(t, "renewed again", wantActs(t, got, []impl.Act{renewAct(1)}), impl.OK, want, impl.OK)
	for _, x := range []impl.Delta{{Host: 1, Gen: 2, Stamp: 20}, {Host: 1, Gen: 1, Stamp: 19}, {Host: 1, Gen: 1, Stamp: 21}, {Host: 1, Gen: 1, Stamp: 25}, {Host: 1, Gen: 1, Stamp: 26}, {Host: 2, Gen: 1, Stamp: 20}} {
		w := worldLike(base, func(w *impl.World) { w.Disk.Sectors[6] = deltaText(x.Host, x.Gen, x.Stamp) })
		wantWorld(t, "another generation", wantActs(t, w, []impl.Act{renewAct(1)}, impl.ErrStale), impl.OK, w, impl.OK)
	}
	for round := range 40 {
		got = wantActs(t, got, []impl.Act{ticksAct(round % 10), renewAct(1), openAct(2)}, impl.OK, impl.OK, impl.ErrHeld)
		wantWriters(t, "renewed", got, 1)
	}
}

func TestP16TimeGoesBy(t *testing.T) {
	base := workedWorld()
	for _, c := range []struct{ time, n, want int }{
		{20, 0, 20}, {20, 1, 21}, {20, 100000, 100020}, {900000, 100000, 1000000}, {900001, 100000, -1}, {999999, 0, 999999}, {999999, 1, 1000000}, {999999, 2, -1}, {1000000, 0, 1000000}, {1000000, 1, -1}, {1000000, 100000, -1},
	} {
		was := worldLike(base, func(w *impl.World) { w.Time = c.time })
		for host := range 4 {
			got, r, code := wantActed(t, "ticks", was, impl.Act{Kind: 6, Host: host, N: c.n})
			want, wantCode := was, impl.ErrRange
			if c.want >= 0 {
				want, wantCode = worldLike(was, func(w *impl.World) { w.Time = c.want }), impl.OK
			}
			wantWorld(t, "ticks", got, code, want, wantCode)
			if !sameReply(r, impl.Reply{}) {
				t.Error("a reply of ticks:", r)
			}
		}
	}
}

// Acts that are none, and worlds that are none: nothing is answered at all.
func TestP16WrongActsAndWorlds(t *testing.T) {
	few := []impl.Act{openAct(0), openAct(1), reqAct(1, writeReq(0, 5)), reqAct(1, impl.Req{Kind: 8}), crashAct(1, 3, 1, writeReq(0, 5)), closeAct(1), renewAct(1), ticksAct(0), ticksAct(100000)}
	for _, w := range wrongWorlds() {
		for _, a := range few {
			wantNotActed(t, w.name, w.world, a)
		}
	}
	worlds := []impl.World{newWorldBy(plainConfig(), 4), workedWorld(), behind(workedWorld(), ticksAct(10)), behind(workedWorld(), ticksAct(60)), {}, fewWrongWorlds()[0]}
	for _, a := range wrongActs() {
		if rightAct(a) {
			t.Fatal("it is right:", a)
		}
		for _, w := range worlds {
			wantNotActed(t, fmt.Sprintf("act %.200v", a), w, a)
		}
	}
}
