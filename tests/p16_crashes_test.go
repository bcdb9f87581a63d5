package tests

import (
	"fmt"
	"slices"
	"testing"

	"loop.example/g00456/impl"
)

// Promise 16, of requests and of hosts that crash in them; p16_reckoning_test.go says what they are held against.

// busyImages are such that requests of each kind change nothing, one sector or as many as a request may.
func busyImages() []impl.Image {
	return []impl.Image{imageOf(nil), sharing(), usedUpBySnaps(), imageOf([]int{0, 2, 1, 25}, []int{2, 0}, []int{25}, []int{2, 25, 1})}
}

// openWorld shows m, and has a host open that has just renewed.
func openWorld(m impl.Image, host int) impl.World {
	return behind(worldOfImage(m), ticksAct(7), openAct(host), ticksAct(3), renewAct(host))
}

// A reply, the image and the guest are what chapters 14 and 15 say; where an image is full the guest does nothing.
func TestP16Requests(t *testing.T) {
	met, most := noneMet(), 0
	for i, m := range storeImages() {
		w := openWorld(m, i%4)
		for _, q := range reqsFor(m) {
			got, r, code := wantActed(t, fmt.Sprint("image ", i), w, reqAct(i%4, q))
			wantOK(t, "AcReq "+named(q), code)
			next, want := doneBy(m, q)
			if shown, ok := imageOn(got.Disk, 0); !ok || !sameImage(shown, next) || !sameReply(r, want) {
				t.Error("image", i, named(q), "shows", shown, "not", next, "reply", r, "not", want)
			}
			wantAgrees(t, named(q), got, true)
			if r.Code != impl.OK && !alikeWorlds(got, w) {
				t.Error("image", i, named(q), "is refused, and changes something:", r)
			}
			list, _, _ := changesBy(w, i%4, q)
			if met[q.Kind][r.Code]++; len(list) == 0 && !sameDisk(got.Disk, w.Disk) {
				t.Error("image", i, named(q), "changes nothing, and something is written")
			}
			most = max(most, len(list))
		}
		if t.Failed() {
			return
		}
	}
	wantKindsMet(t, met)
	// Four at most, so that none has too many for a slot.
	if most != 4 {
		t.Error("the most that a request changes:", most)
	}
}

// A guest that is not what the image shows: it does the same, and Agree ends only if it answers another way.
func TestP16RequestsOfAnotherGuest(t *testing.T) {
	w := openWorld(imageOf([]int{2, 3, 0}, []int{2}), 2)
	with := func(change func(g *impl.Guest)) impl.World {
		return worldLike(w, func(w *impl.World) { change(&w.Guest) })
	}
	value := with(func(g *impl.Guest) { g.Values[1] = 9 })
	size := with(func(g *impl.Guest) { g.Values = g.Values[:1] })
	name := with(func(g *impl.Guest) { g.Shots[0].Name = "b" })
	for i, c := range []struct {
		world impl.World
		q     impl.Req
		want  bool
	}{
		{value, impl.Req{Kind: 1, G: 0}, true}, {value, impl.Req{Kind: 1, G: 1}, false}, {value, writeReq(1, 5), true}, {value, impl.Req{Kind: 8}, true}, {value, createReq("b"), true},
		{size, impl.Req{Kind: 1, G: 0}, true}, {size, impl.Req{Kind: 1, G: 1}, false}, {size, writeReq(2, 5), false}, {size, impl.Req{Kind: 8}, false}, {size, impl.Req{Kind: 4, G: 3}, true}, {size, impl.Req{Kind: 3, G: 3}, true},
		{name, impl.Req{Kind: 8}, false}, {name, createReq("b"), false}, {name, createReq("a"), false}, {name, createReq("c"), true}, {name, impl.Req{Kind: 7, Name: "a"}, false}, {name, impl.Req{Kind: 6, Name: "c"}, true},
	} {
		got, r, code := wantActed(t, "another guest", c.world, reqAct(2, c.q))
		g, _ := guestDoneBy(c.world.Guest, c.q)
		if got.Agree != c.want || code != impl.OK || !alikeGuests(got.Guest, g) {
			t.Error(i, named(c.q), "Agree is", got.Agree, "reply", r, "code", code, "guest", got.Guest)
		}
		// It has ended once and for all.
		ended := worldLike(c.world, func(w *impl.World) { w.Agree = false })
		if got, _, _ := wantActed(t, "ended", ended, reqAct(2, c.q)); got.Agree {
			t.Error(i, "Agree began again")
		}
	}
}

// crashPlan is what a request's plan is made of: count updates, and moves in all.
func crashPlan(w impl.World, host int, q impl.Req) (count, moves int, r impl.Reply) {
	list, r, _ := changesBy(w, host, q)
	return len(list), len(planBy(host, w.Time, list)), r
}

// wantSettled has a host open behind a crash: the request is done whole or not at all, Maybe is settled, and whoever reads sees it so.
func wantSettled(t *testing.T, where string, was, crashed impl.World, host int, q impl.Req, done bool) {
	t.Helper()
	want := was.Guest
	if done {
		want, _ = guestDoneBy(was.Guest, q)
	}
	w, _, code := wantActed(t, where, crashed, openAct(host))
	wantOK(t, where+": open", code)
	if w.Maybe != (impl.Req{}) || !alikeGuests(w.Guest, want) || !w.Agree {
		t.Errorf("%s: maybe %s, guest %v, not %v, agree %v", where, named(w.Maybe), w.Guest, want, w.Agree)
	}
	m, ok := imageOn(w.Disk, 0)
	if !ok || !alikeGuests(guestBy(m), want) {
		t.Errorf("%s: the image shows %v, not %v", where, m, want)
	}
	wantAgrees(t, where, w, true)
	wantWriters(t, where, w, host)
	for of := range 4 {
		if list, _, ok := journalBy(w.Disk, 0, of); !ok || len(list) > 0 {
			t.Error(where, "something waits still:", of, list)
		}
	}
}

// Each kind of request, crashed in each step of its plan and with each number of writes that survive. The head decides: from where it is sure the request is done.
func TestP16CrashesInEachStep(t *testing.T) {
	met := map[bool]int{}
	for i, m := range busyImages() {
		host := i % 4
		was := openWorld(m, host)
		for _, q := range append(worldReqs(), writeReq(1, 7), impl.Req{Kind: 6, Name: "b"}, impl.Req{Kind: 7, Name: "a"}) {
			count, moves, r := crashPlan(was, host, q)
			for _, step := range append(numbersTo(moves+1), 100) {
				for _, keep := range append(numbersTo(count+1), 100) {
					where := fmt.Sprint("image ", i, ", ", named(q), ", step ", step, ", keep ", keep)
					w, reply, code := wantActed(t, where, was, crashAct(host, step, keep, q))
					wantOK(t, where, code)
					wantCrashed(t, where, was, w, host, q, r.Code == impl.OK)
					if !sameReply(reply, impl.Reply{}) {
						t.Error(where, "a reply of a crash:", reply)
					}
					done := r.Code == impl.OK && (count == 0 || step > count+2 || step == count+2 && keep > 0)
					met[done]++
					wantSettled(t, where+", itself", was, w, host, q, done)
					other := (host + 1 + step%3) % 4
					wantActs(t, worldLike(w, func(w *impl.World) { w.Time += 59 }), []impl.Act{openAct(other)}, impl.ErrHeld)
					wantSettled(t, where+", another", was, worldLike(w, func(w *impl.World) { w.Time += 60 }), other, q, done)
				}
			}
			if t.Failed() {
				return
			}
		}
	}
	if met[true] < 500 || met[false] < 500 {
		t.Error("few of one sort:", met)
	}
}

func numbersTo(most int) []int {
	var out []int
	for n := range most + 1 {
		out = append(out, n)
	}
	return out
}

// wantCrashed asks for what a crash leaves at once.
func wantCrashed(t *testing.T, where string, was, w impl.World, host int, q impl.Req, maybe bool) {
	t.Helper()
	want := impl.Req{}
	if maybe {
		want = q
	}
	hosts := slices.Clone(was.Hosts)
	hosts[host].State = 2
	if w.Maybe != want || !slices.Equal(w.Hosts, hosts) || !alikeGuests(w.Guest, was.Guest) || w.Time != was.Time || !w.Agree || len(w.Disk.Pending) > 0 {
		t.Errorf("%s: maybe %s, hosts %v, guest %v, %d writes that are not sure", where, named(w.Maybe), w.Hosts, w.Guest, len(w.Disk.Pending))
	}
	wantWriters(t, where, w)
	wantAgrees(t, where, w, true)
}

// By hand: three updates of a write into a hole, so that a plan has the three texts, a flush, the head, a flush, three sectors, a flush, the empty head and a flush.
func TestP16ACrashByHand(t *testing.T) {
	was := openWorld(imageOf([]int{0, 2}), 3)
	next, _, _ := wantActed(t, "all of it", was, reqAct(3, writeReq(0, 9)))
	old, whole := was.Disk.Sectors, next.Disk.Sectors
	texts := []int{58, 59, 60}
	image := []int{10, 11, 16}
	for _, c := range []struct {
		step, keep int
		changed    []int
		head       string
	}{
		{0, 0, nil, ""}, {0, 100, nil, ""}, {1, 0, nil, ""}, {1, 1, texts[:1], ""}, {3, 0, nil, ""}, {3, 2, texts[:2], ""}, {3, 3, texts, ""}, {4, 0, texts, ""},
		{5, 0, texts, ""}, {5, 1, texts, headText(3, 10)}, {6, 0, texts, headText(3, 10)}, {7, 0, texts, headText(3, 10)}, {7, 1, append(texts, 10), headText(3, 10)},
		{9, 2, append(texts, 10, 11), headText(3, 10)}, {10, 0, append(texts, image...), headText(3, 10)}, {11, 0, append(texts, image...), headText(3, 10)},
		{11, 1, append(texts, image...), headText(0, 10)}, {12, 0, append(texts, image...), headText(0, 10)}, {13, 0, append(texts, image...), headText(0, 10)}, {100, 100, append(texts, image...), headText(0, 10)},
	} {
		w, _, code := impl.WorldDo(was, crashAct(3, c.step, c.keep, writeReq(0, 9)))
		wantOK(t, "crash", code)
		want := slices.Clone(old)
		for _, at := range c.changed {
			want[at] = whole[at]
		}
		want[57] = c.head
		if !slices.Equal(w.Disk.Sectors, want) || len(w.Disk.Pending) > 0 {
			t.Errorf("step %d, keep %d: %q, not %q", c.step, c.keep, w.Disk.Sectors[9:], want[9:])
		}
	}
}

// One crash behind the other, by the same host and by others: each is settled when somebody opens, and what was done stays done.
func TestP16CrashesOneAfterAnother(t *testing.T) {
	w := worldOfImage(sharing())
	for turn := range 60 {
		host := turn * 7 % 4
		value := 1000 + turn
		w = wantActs(t, w, []impl.Act{ticksAct(60), openAct(host), reqAct(host, writeReq(0, value)), crashAct(host, turn%13, turn%4, writeReq(1, value))})
		wantAgrees(t, "crashed", w, true)
		if w.Maybe != writeReq(1, value) || w.Guest.Values[0] != value {
			t.Error("maybe", w.Maybe, w.Guest)
		}
		again := []impl.Act{openAct(host), crashAct(host, turn%5, 0, impl.Req{Kind: 1, G: 1}), openAct(host), crashAct(host, 0, 0, impl.Req{Kind: 7, Name: "none"})}
		w = wantActs(t, w, again[:turn%3*2])
	}
}

// What Maybe was stays where a crash's request is refused, and is another one where it is not.
func TestP16MaybeIsThere(t *testing.T) {
	was := worldLike(openWorld(sharing(), 1), func(w *impl.World) { w.Maybe = writeReq(5, 5) })
	for _, c := range []struct{ q, want impl.Req }{
		{impl.Req{Kind: 1, G: 9}, writeReq(5, 5)}, {impl.Req{Kind: 6, Name: "none"}, writeReq(5, 5)}, {createReq("d"), writeReq(5, 5)},
		{impl.Req{Kind: 8}, impl.Req{Kind: 8}}, {writeReq(0, 1), writeReq(0, 1)},
	} {
		if w := wantActs(t, was, []impl.Act{crashAct(1, 0, 0, c.q)}); w.Maybe != c.want {
			t.Error("maybe", named(w.Maybe), "not", named(c.want))
		}
	}
	// No other act settles it but one that opens.
	for _, a := range []impl.Act{reqAct(1, writeReq(0, 1)), renewAct(1), closeAct(1), ticksAct(9), ticksAct(99), openAct(1), openAct(2)} {
		if w, _, _ := wantActed(t, "maybe", was, a); w.Maybe != writeReq(5, 5) {
			t.Error("maybe is settled by", actText(a))
		}
	}
}

// Whoever opens is told what the image shows: the guest behind Maybe, the guest as it was, or another one.
func TestP16WhatIsToldWhenAHostOpens(t *testing.T) {
	base := behind(workedWorld(), closeAct(1))
	guest := base.Guest
	before := guestLike(guest, func(g *impl.Guest) { g.Values[3] = 0 })
	other := guestLike(guest, func(g *impl.Guest) { g.Values[3] = 8 })
	for i, c := range []struct {
		guest, want impl.Guest
		maybe       impl.Req
		agree       bool
	}{
		{guest, guest, impl.Req{}, true},
		{before, before, impl.Req{}, false},
		{before, guest, writeReq(3, 7), true},
		{before, before, writeReq(3, 8), false},
		{before, before, impl.Req{Kind: 8}, false},
		{guest, guest, writeReq(3, 7), true},
		{guest, guest, writeReq(3, 8), true},
		{guest, guest, impl.Req{Kind: 8}, true},
		{guest, guest, impl.Req{Kind: 4, G: 13}, true},
		{other, guest, writeReq(3, 7), true},
		{other, other, writeReq(3, 9), false},
	} {
		for _, agree := range []bool{true, false} {
			w := worldLike(base, func(w *impl.World) { w.Guest, w.Maybe, w.Agree = cloneGuest(c.guest), c.maybe, agree })
			got := wantActs(t, w, []impl.Act{openAct(2)})
			if !alikeGuests(got.Guest, c.want) || got.Maybe != (impl.Req{}) || got.Agree != (agree && c.agree) {
				t.Error(i, got.Guest, named(got.Maybe), got.Agree)
			}
		}
	}
}
