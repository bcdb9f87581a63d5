package tests

import (
	"fmt"
	"slices"
	"testing"

	"loop.example/g00456/impl"
)

// Promise 16: whatever comes, a world agrees with its guest, and at most one host may write; nobody takes over while a lease may last, somebody does when its host seems dead; who closes lets another one open at once.
// Here stands what the tests of it reckon with: worlds that are held against each other, and acts that are done, without the program. What stands on the disk is reckoned by the files of the earlier promises.

func cloneWorld(w impl.World) impl.World {
	w.Disk, w.Hosts, w.Guest = cloneDisk(w.Disk), slices.Clone(w.Hosts), cloneGuest(w.Guest)
	return w
}

// alikeWorlds holds nil and empty lists for the same.
func alikeWorlds(a, b impl.World) bool {
	return sameDisk(a.Disk, b.Disk) && a.Config == b.Config && slices.Equal(a.Hosts, b.Hosts) &&
		a.Time == b.Time && alikeGuests(a.Guest, b.Guest) && a.Maybe == b.Maybe && a.Agree == b.Agree
}

func rightSectors(d impl.Disk) bool {
	return len(d.Sectors) == 64 && !slices.ContainsFunc(d.Sectors, func(s string) bool { return len(s) > 80 })
}

func rightWorld(w impl.World) bool {
	if !rightSectors(w.Disk) || len(w.Disk.Pending) > 0 || !rightBy(w.Config) || len(w.Hosts) != 4 || w.Time < 0 || w.Time > 1000000 {
		return false
	}
	for _, h := range w.Hosts {
		if h.State < 0 || h.State > 2 || h.Gen < 0 || h.Gen > 1000000 || h.Renewed < 0 || h.Renewed > w.Time {
			return false
		}
	}
	return rightGuest(w.Guest) && (w.Maybe == impl.Req{} || rightReq(w.Maybe))
}

func rightAct(a impl.Act) bool {
	if a.Kind < 1 || a.Kind > 6 || a.Host < 0 || a.Host > 3 || a.Step < 0 || a.Step > 100 || a.Keep < 0 || a.Keep > 100 || a.N < 0 || a.N > 100000 {
		return false
	}
	if a.Kind == 2 || a.Kind == 3 {
		return rightReq(a.Req)
	}
	return a.Req == impl.Req{}
}

// newWorldBy takes a right configuration and a size.
func newWorldBy(c impl.Config, size int) impl.World {
	return impl.World{Disk: formatBy(emptyDisk(), 0, size), Config: c, Hosts: make([]impl.Host, 4), Guest: guestWith(make([]int, size)), Agree: true}
}

// deltaOn is a host's generation, zero if there is no right one of its own.
func deltaOn(d impl.Disk, host int) impl.Delta {
	if x, ok := deltaBy(d.Sectors[5+host]); ok && x.Host == host {
		return x
	}
	return impl.Delta{}
}

// askedBy is the code with which a host is asked.
func askedBy(w impl.World, host int) int {
	h, x := w.Hosts[host], leaderOn(w.Disk, host)
	switch {
	case h.State != 1:
		return impl.ErrClosed
	case w.Time-h.Renewed >= w.Config.Fail:
		return impl.ErrFenced
	case x.Owner != host || x.Gen != h.Gen:
		return impl.ErrStale
	}
	return impl.OK
}

// writersBy are the hosts that may write.
func writersBy(w impl.World) []int {
	var out []int
	for host := range 4 {
		if askedBy(w, host) == impl.OK {
			out = append(out, host)
		}
	}
	return out
}

// heldBy tells whether the leader is another host that does not seem dead.
func heldBy(w impl.World, host int) bool {
	x := leaderOn(w.Disk, host)
	return x.Owner >= 0 && x.Owner != host && w.Time-deltaOn(w.Disk, x.Owner).Stamp < w.Config.Dead
}

// The next ones take right worlds and right acts, and change none of them.

func openedBy(w impl.World, host int) (impl.World, int) {
	gen := deltaOn(w.Disk, host).Gen + 1
	switch {
	case w.Hosts[host].State == 1:
		return w, impl.ErrOpen
	case heldBy(w, host):
		return w, impl.ErrHeld
	case gen > 1000000:
		return w, impl.ErrMany
	}
	was := leaderOn(w.Disk, host)
	d, x, code := electBy(putBy(w.Disk, host, 5+host, deltaText(host, gen, w.Time)), host, host, gen)
	w.Disk = d
	if code != impl.OK {
		return w, code
	}
	if x != (impl.Leader{Ver: was.Ver + 1, Owner: host, Gen: gen}) {
		return w, impl.ErrHeld
	}
	for _, of := range []int{max(was.Owner, 0), host} {
		list, seq, ok := journalBy(w.Disk, host, of)
		if !ok {
			return w, impl.ErrBroken
		}
		w.Disk = movesBy(w.Disk, host, applyBy(of, seq, list))
	}
	m, ok := imageOn(w.Disk, host)
	if !ok {
		return w, impl.ErrBroken
	}
	w = cloneWorld(w)
	w.Hosts[host] = impl.Host{State: 1, Gen: gen, Renewed: w.Time}
	return toldBy(w, guestBy(m)), impl.OK
}

// toldBy is a world in which somebody has seen what the image shows.
func toldBy(w impl.World, shown impl.Guest) impl.World {
	if w.Maybe != (impl.Req{}) {
		if done, _ := guestDoneBy(w.Guest, w.Maybe); alikeGuests(done, shown) {
			w.Guest = shown
		}
	}
	w.Maybe = impl.Req{}
	w.Agree = w.Agree && alikeGuests(w.Guest, shown)
	return w
}

// changesBy are the updates that a request makes, and its reply.
func changesBy(w impl.World, host int, q impl.Req) ([]impl.Update, impl.Reply, int) {
	m, ok := imageOn(w.Disk, host)
	if !ok {
		return nil, impl.Reply{}, impl.ErrBroken
	}
	next, r := doneBy(m, q)
	list := diffBy(sectorsBy(m), sectorsBy(next))
	if len(list) > 5 {
		return nil, impl.Reply{}, impl.ErrMany
	}
	return list, r, impl.OK
}

func requestedBy(w impl.World, host int, q impl.Req) (impl.World, impl.Reply, int) {
	list, r, code := changesBy(w, host, q)
	if code != impl.OK {
		return w, impl.Reply{}, code
	}
	w.Disk = movesBy(w.Disk, host, planBy(host, w.Time, list))
	if r.Code != impl.ErrFull {
		g, s := guestDoneBy(w.Guest, q)
		w.Guest, w.Agree = g, w.Agree && sameReply(r, s)
	}
	return w, r, impl.OK
}

func crashedBy(w impl.World, a impl.Act) (impl.World, int) {
	list, r, code := changesBy(w, a.Host, a.Req)
	if code != impl.OK {
		return w, code
	}
	plan := planBy(a.Host, w.Time, list)
	w.Disk = lostBy(movesBy(w.Disk, a.Host, plan[:min(a.Step, len(plan))]), a.Host, a.Keep)
	if r.Code == impl.OK {
		w.Maybe = a.Req
	}
	return withState(w, a.Host, 2), impl.OK
}

func withState(w impl.World, host, state int) impl.World {
	w.Hosts = slices.Clone(w.Hosts)
	w.Hosts[host].State = state
	return w
}

func closedBy(w impl.World, host int) (impl.World, int) {
	x := leaderOn(w.Disk, host)
	if x.Ver == 1000000 {
		return w, impl.ErrMany
	}
	w.Disk = putBy(w.Disk, host, 0, leaderText(impl.Leader{Ver: x.Ver + 1, Owner: -1}))
	return withState(w, host, 0), impl.OK
}

func renewedBy(w impl.World, host int) (impl.World, int) {
	h := w.Hosts[host]
	if deltaOn(w.Disk, host) != (impl.Delta{Host: host, Gen: h.Gen, Stamp: h.Renewed}) {
		return w, impl.ErrStale
	}
	w.Disk = putBy(w.Disk, host, 5+host, deltaText(host, h.Gen, w.Time))
	w.Hosts = slices.Clone(w.Hosts)
	w.Hosts[host].Renewed = w.Time
	return w, impl.OK
}

func worldDoneBy(w impl.World, a impl.Act) (impl.World, impl.Reply, int) {
	code := impl.OK
	switch a.Kind {
	case 1:
		w, code = openedBy(w, a.Host)
		return w, impl.Reply{}, code
	case 6:
		if w.Time+a.N > 1000000 {
			return w, impl.Reply{}, impl.ErrRange
		}
		w.Time += a.N
		return w, impl.Reply{}, impl.OK
	}
	switch code := askedBy(w, a.Host); code {
	case impl.OK:
	case impl.ErrClosed:
		return w, impl.Reply{}, code
	default:
		return withState(w, a.Host, 0), impl.Reply{}, code
	}
	switch a.Kind {
	case 2:
		return requestedBy(w, a.Host, a.Req)
	case 3:
		w, code = crashedBy(w, a)
	case 4:
		w, code = closedBy(w, a.Host)
	case 5:
		w, code = renewedBy(w, a.Host)
	}
	return w, impl.Reply{}, code
}

func agreesBy(w impl.World) bool {
	if !w.Agree || w.Maybe != (impl.Req{}) {
		return w.Agree
	}
	m, ok := imageOn(w.Disk, 0)
	return ok && alikeGuests(guestBy(m), w.Guest)
}

func openAct(host int) impl.Act  { return impl.Act{Kind: 1, Host: host} }
func closeAct(host int) impl.Act { return impl.Act{Kind: 4, Host: host} }
func renewAct(host int) impl.Act { return impl.Act{Kind: 5, Host: host} }
func ticksAct(n int) impl.Act    { return impl.Act{Kind: 6, N: n} }

func reqAct(host int, q impl.Req) impl.Act {
	return impl.Act{Kind: 2, Host: host, Req: q}
}

func crashAct(host, step, keep int, q impl.Req) impl.Act {
	return impl.Act{Kind: 3, Host: host, Step: step, Keep: keep, Req: q}
}

func writeReq(g, value int) impl.Req    { return impl.Req{Kind: 2, G: g, Value: value} }
func createReq(name string) impl.Req    { return impl.Req{Kind: 5, Name: name} }
func plainConfig() impl.Config          { return impl.Config{Fail: 10, Dead: 60, Delay: 2, Drift: 10} }
func leaderIn(w impl.World) impl.Leader { return leaderOn(w.Disk, 0) }

// behind is a world behind acts, without the program.
func behind(w impl.World, list ...impl.Act) impl.World {
	for _, a := range list {
		w, _, _ = worldDoneBy(w, a)
	}
	return w
}

func worldLike(w impl.World, change func(w *impl.World)) impl.World {
	w = cloneWorld(w)
	change(&w)
	return w
}

// worldOfImage is one whose image is m, and whose guest is what it shows.
func worldOfImage(m impl.Image) impl.World {
	return worldLike(newWorldBy(plainConfig(), 0), func(w *impl.World) {
		w.Disk, w.Guest = diskOfImage(m), guestBy(m)
	})
}

func wantWorld(t *testing.T, where string, got impl.World, code int, want impl.World, wantCode int) {
	t.Helper()
	if code != wantCode {
		t.Errorf("%s: code %d, not %d", where, code, wantCode)
	}
	if alikeWorlds(got, want) {
		return
	}
	t.Errorf("%s (code %d): %v at %d, %v, maybe %s, agree %v; not %v at %d, %v, maybe %s, agree %v", where, code,
		got.Hosts, got.Time, got.Guest, named(got.Maybe), got.Agree, want.Hosts, want.Time, want.Guest, named(want.Maybe), want.Agree)
	for at := range min(len(got.Disk.Sectors), len(want.Disk.Sectors)) {
		if got.Disk.Sectors[at] != want.Disk.Sectors[at] {
			t.Errorf("%s: sector %d is %q, not %q", where, at, got.Disk.Sectors[at], want.Disk.Sectors[at])
		}
	}
}

// wantActed does an act, and holds world, reply and code against the reckoning.
func wantActed(t *testing.T, where string, w impl.World, a impl.Act) (impl.World, impl.Reply, int) {
	t.Helper()
	got, r, code := impl.WorldDo(w, a)
	want, wantReply, wantCode := worldDoneBy(w, a)
	wantWorld(t, where+": "+actText(a), got, code, want, wantCode)
	if !sameReply(r, wantReply) {
		t.Errorf("%s: %s: reply %v, not %v", where, actText(a), r, wantReply)
	}
	return got, r, code
}

// wantActs does acts one behind the other, each with its code; an act without one must be OK.
func wantActs(t *testing.T, w impl.World, list []impl.Act, codes ...int) impl.World {
	t.Helper()
	for i, a := range list {
		want := impl.OK
		if i < len(codes) {
			want = codes[i]
		}
		next, _, code := wantActed(t, "act", w, a)
		if code != want {
			t.Fatalf("act %d, %s: code %d, not %d", i, actText(a), code, want)
		}
		w = next
	}
	return w
}

func wantAgrees(t *testing.T, where string, w impl.World, want bool) {
	t.Helper()
	if got, code := impl.WorldAgrees(w); got != want || code != impl.OK {
		t.Errorf("%s: WorldAgrees %v with code %d, not %v", where, got, code, want)
	}
}

func actText(a impl.Act) string {
	return fmt.Sprint([]string{"open", "req", "crash", "close", "renew", "ticks"}[a.Kind-1], " by ", a.Host, ", step ", a.Step, ", keep ", a.Keep, ", n ", a.N, ", request ", named(a.Req))
}

// worldKey is another one of each world.
func worldKey(w impl.World) string {
	return fmt.Sprintf("%q %v %v %v %d %v %q %v", w.Disk.Sectors, w.Disk.Pending, w.Config, w.Hosts, w.Time, w.Guest, fmt.Sprint(w.Maybe), w.Agree)
}
