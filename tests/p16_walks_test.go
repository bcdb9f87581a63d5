package tests

import (
	"math/rand"
	"slices"
	"testing"

	"loop.example/g00456/impl"
)

// Promise 16, whatever comes: long walks of acts of all kinds over all hosts. p16_reckoning_test.go says what each act is held against; here the promise itself is asked for, behind each of them.

// wantPromised asks for what is promised of a world that acts led to: it agrees, at most one host may write, and that is the leader that every host reads.
func wantPromised(t *testing.T, where string, w impl.World) {
	t.Helper()
	if !impl.WorldOK(w) {
		t.Fatal(where, "is not right")
	}
	wantAgrees(t, where, w, true)
	writers := 0
	for host := range 4 {
		may, code := impl.MayWrite(w, host)
		wantOK(t, where+": MayWrite", code)
		if !may {
			continue
		}
		writers++
		for reader := range 4 {
			x, code := impl.ReadLeader(w.Disk, reader)
			if x.Owner != host || x.Gen != w.Hosts[host].Gen || code != impl.OK {
				t.Errorf("%s: host %d may write, and %d reads that %v leads (%d)", where, host, reader, x, code)
			}
		}
		if h := w.Hosts[host]; h.State != impl.HoOpen || w.Time-h.Renewed >= w.Config.Fail {
			t.Errorf("%s: its lease is over, and it may write: %v at %d", where, h, w.Time)
		}
	}
	if writers > 1 {
		t.Errorf("%s: %d hosts may write", where, writers)
	}
}

// wantNobodyRobbed asks that nobody took over from a host whose lease may last, and that somebody did from one that seems dead.
func wantNobodyRobbed(t *testing.T, was, w impl.World, a impl.Act, code int) {
	t.Helper()
	if a.Kind != impl.AcOpen || was.Hosts[a.Host].State == impl.HoOpen {
		return
	}
	for _, host := range writersBy(was) {
		if host != a.Host && (code != impl.ErrHeld || !alikeWorlds(w, was)) {
			t.Errorf("%d took over from %d, which may write: %d", a.Host, host, code)
		}
	}
	x := leaderIn(was)
	free := x.Owner < 0 || x.Owner == a.Host || was.Time-deltaOn(was.Disk, x.Owner).Stamp >= was.Config.Dead
	if free != (code == impl.OK) || !free && code != impl.ErrHeld {
		t.Errorf("%d opens with code %d, led by %v at %d", a.Host, code, x, was.Time)
	}
}

func TestP16Walks(t *testing.T) {
	met, opened := map[int]map[int]int{}, map[bool]int{}
	for seed := range int64(40) {
		r := rand.New(rand.NewSource(1600 + seed))
		c := []impl.Config{plainConfig(), {Fail: 1, Dead: 4}, {Fail: 5, Dead: 30, Delay: 3, Drift: 100}, {Fail: 10000, Dead: 100000, Delay: 1000, Drift: 500}}[seed%4]
		w, code := impl.NewWorld(c, []int{0, 1, 6, 12}[r.Intn(4)])
		wantOK(t, "NewWorld", code)
		for range 250 {
			a := anyAct(r, w)
			next, _, code := wantActed(t, "walk", w, a)
			wantPromised(t, actText(a), next)
			wantNobodyRobbed(t, w, next, a, code)
			if code == impl.OK && a.Kind == impl.AcOpen {
				opened[leaderIn(w).Owner == a.Host]++
			}
			if met[a.Kind] == nil {
				met[a.Kind] = map[int]int{}
			}
			met[a.Kind][code]++
			if w = next; t.Failed() {
				t.Fatal("seed", seed, actText(a), w.Hosts, w.Time)
			}
		}
	}
	for kind, codes := range map[int][]int{
		1: {impl.OK, impl.ErrOpen, impl.ErrHeld}, 2: {impl.OK, impl.ErrClosed, impl.ErrFenced}, 3: {impl.OK, impl.ErrClosed, impl.ErrFenced},
		4: {impl.OK, impl.ErrClosed, impl.ErrFenced}, 5: {impl.OK, impl.ErrClosed, impl.ErrFenced}, 6: {impl.OK},
	} {
		for _, code := range codes {
			if met[kind][code] < 20 {
				t.Error("acts of kind", kind, "met too little:", code, met[kind])
			}
		}
	}
	if opened[true] < 100 || opened[false] < 100 {
		t.Error("few of one sort opened:", opened)
	}
}

// Each order of a few acts of two hosts, from where one of them leads: whatever comes.
func TestP16AllOrdersOfAFewActs(t *testing.T) {
	moves := []impl.Act{
		openAct(0), openAct(1), reqAct(0, writeReq(0, 3)), reqAct(1, writeReq(0, 4)), crashAct(0, 4, 0, writeReq(0, 5)), crashAct(1, 3, 0, writeReq(1, 6)),
		crashAct(0, 3, 1, createReq("a")), closeAct(0), closeAct(1), renewAct(1), ticksAct(3), ticksAct(20),
	}
	c := impl.Config{Fail: 3, Dead: 20, Delay: 1, Drift: 10}
	worlds := []impl.World{newWorldBy(c, 2)}
	seen := map[string]int{}
	for depth := range 7 {
		var next []impl.World
		for _, w := range worlds {
			for _, a := range moves {
				got, _, code := impl.WorldDo(w, a)
				wantPromised(t, actText(a), got)
				wantNobodyRobbed(t, w, got, a, code)
				if key := worldKey(got); seen[key] == 0 {
					seen[key]++
					next = append(next, got)
				}
			}
			if t.Failed() {
				t.Fatal("in depth", depth)
			}
		}
		worlds = next
	}
	if len(seen) < 3000 {
		t.Error("few worlds:", len(seen))
	}
}

// A host that closed lets each other one open at once, and all that was done is seen.
func TestP16ClosedBehindAWalk(t *testing.T) {
	r := rand.New(rand.NewSource(165))
	closed := 0
	for range 60 {
		w := newWorldBy(plainConfig(), 6)
		for range 30 {
			w, _, _ = impl.WorldDo(w, anyAct(r, w))
		}
		writers := writersBy(w)
		if len(writers) == 0 {
			continue
		}
		closed++
		w = wantActs(t, w, []impl.Act{closeAct(writers[0])})
		for host := range 4 {
			if w.Hosts[host].State == impl.HoOpen {
				continue
			}
			got := wantActs(t, w, []impl.Act{openAct(host)})
			wantPromised(t, "open", got)
			wantSeen(t, got, host)
		}
	}
	if closed < 10 {
		t.Error("few closed:", closed)
	}
}

// wantSeen asks a host that may write for all that the guest has.
func wantSeen(t *testing.T, w impl.World, host int) {
	t.Helper()
	_, r, code := impl.WorldDo(w, reqAct(host, impl.Req{Kind: impl.RqList}))
	if r.Value != len(w.Guest.Values) || !slices.Equal(r.Names, shotNames(w.Guest)) || code != impl.OK {
		t.Error("list", r, code, w.Guest)
	}
	for _, shot := range append([]string{""}, shotNames(w.Guest)...) {
		values := w.Guest.Values
		if shot != "" {
			w, _, _ = impl.WorldDo(w, reqAct(host, impl.Req{Kind: impl.RqRevert, Name: shot}))
			values = w.Guest.Shots[slices.Index(shotNames(w.Guest), shot)].Values
		}
		for g, value := range values {
			if _, r, code := impl.WorldDo(w, reqAct(host, impl.Req{Kind: impl.RqRead, G: g})); r.Value != value || r.Code != impl.OK || code != impl.OK {
				t.Error("read", shot, g, r, code, "not", value)
			}
		}
	}
}
