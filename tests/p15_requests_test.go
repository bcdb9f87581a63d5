package tests

import (
	"math/rand"
	"strconv"
	"testing"

	"loop.example/g00456/impl"
)

// Promise 15, of what guests and images do side by side; p15_reckoning_test.go says what it is held against.

func wantGuestDone(t *testing.T, where string, g impl.Guest, q impl.Req) (impl.Guest, impl.Reply) {
	t.Helper()
	want, wantReply := guestDoneBy(g, q)
	got, r, code := impl.GuestDo(g, q)
	wantGuest(t, where+": "+named(q), got, code, want, impl.OK)
	if !sameReply(r, wantReply) {
		t.Errorf("%s: %s: reply %v, not %v", where, named(q), r, wantReply)
	}
	return got, r
}

func wantGuestNotDone(t *testing.T, where string, g impl.Guest, q impl.Req) {
	t.Helper()
	got, r, code := impl.GuestDo(g, q)
	wantNoGuest(t, where+": "+named(q), got, code)
	if !sameReply(r, impl.Reply{}) {
		t.Errorf("%s: %s: a reply, %v", where, named(q), r)
	}
}

func TestP15RequestsByHand(t *testing.T) {
	g := guestWith([]int{0, 7, 8}, []int{9}, nil)
	ok := func(value int, names ...string) impl.Reply { return impl.Reply{Value: value, Names: names} }
	code := func(code int) impl.Reply { return impl.Reply{Code: code} }
	same := func(g *impl.Guest) {}
	values := func(values ...int) func(g *impl.Guest) { return func(g *impl.Guest) { g.Values = values } }
	for _, c := range []struct {
		q      impl.Req
		reply  impl.Reply
		change func(g *impl.Guest)
	}{
		{impl.Req{Kind: 1}, ok(0), same},
		{impl.Req{Kind: 1, G: 2}, ok(8), same},
		{impl.Req{Kind: 1, G: 3}, code(impl.ErrRange), same},
		{impl.Req{Kind: 1, G: -1}, code(impl.ErrRange), same},
		{impl.Req{Kind: 2, G: 1, Value: mostNumber}, ok(0), values(0, mostNumber, 8)},
		{impl.Req{Kind: 2, G: 1}, ok(0), values(0, 0, 8)},
		{impl.Req{Kind: 2, G: 1, Value: mostNumber + 1}, code(impl.ErrRange), same},
		{impl.Req{Kind: 2, G: 1, Value: -1}, code(impl.ErrRange), same},
		{impl.Req{Kind: 2, G: 3, Value: 1}, code(impl.ErrRange), same},
		{impl.Req{Kind: 3, G: 2}, ok(0), values(0, 7, 0)},
		{impl.Req{Kind: 3, G: 3}, code(impl.ErrRange), same},
		{impl.Req{Kind: 4}, ok(0), values()},
		{impl.Req{Kind: 4, G: 2}, ok(0), values(0, 7)},
		{impl.Req{Kind: 4, G: 12}, ok(0), values(0, 7, 8, 0, 0, 0, 0, 0, 0, 0, 0, 0)},
		{impl.Req{Kind: 4, G: 13}, code(impl.ErrRange), same},
		{impl.Req{Kind: 5, Name: "abcdef"}, ok(0), func(g *impl.Guest) {
			g.Shots = append(g.Shots, impl.Shot{Name: "abcdef", Values: []int{0, 7, 8}})
		}},
		{impl.Req{Kind: 5, Name: "abcdefg"}, code(impl.ErrName), same},
		{impl.Req{Kind: 5}, code(impl.ErrName), same},
		{impl.Req{Kind: 5, Name: "b"}, code(impl.ErrTwice), same},
		{impl.Req{Kind: 6, Name: "a"}, ok(0), func(g *impl.Guest) { g.Shots = g.Shots[1:] }},
		{impl.Req{Kind: 6, Name: "b"}, ok(0), func(g *impl.Guest) { g.Shots = g.Shots[:1] }},
		{impl.Req{Kind: 6, Name: "c"}, code(impl.ErrNone), same},
		{impl.Req{Kind: 7, Name: "a"}, ok(0), values(9)},
		{impl.Req{Kind: 7, Name: "b"}, ok(0), values()},
		{impl.Req{Kind: 7, Name: "A"}, code(impl.ErrNone), same},
		{impl.Req{Kind: 8}, ok(3, "a", "b"), same},
	} {
		got, r, code := impl.GuestDo(g, c.q)
		wantGuest(t, named(c.q), got, code, guestLike(g, c.change), impl.OK)
		if !sameReply(r, c.reply) {
			t.Errorf("%s: reply %v, not %v", named(c.q), r, c.reply)
		}
	}
	full := fullGuest()
	for name, want := range map[string]int{"d": impl.ErrMany, "a": impl.ErrTwice, "c": impl.ErrTwice, "D": impl.ErrName, "": impl.ErrName} {
		if got, r := wantGuestDone(t, "three shots", full, impl.Req{Kind: 5, Name: name}); r.Code != want || !alikeGuests(got, full) {
			t.Error("create", name, r)
		}
	}
}

// wantGuestKindsMet asks for each code that a kind's reply may have, and for no other: no guest is full.
func wantGuestKindsMet(t *testing.T, met map[int]map[int]int) {
	t.Helper()
	if met[2][impl.ErrFull] != 0 {
		t.Error("a guest was full:", met[2])
	}
	// An image is, and wantKindsMet asks for it.
	met[2][impl.ErrFull]++
	wantKindsMet(t, met)
}

func noneMet() map[int]map[int]int {
	met := map[int]map[int]int{}
	for kind := 1; kind <= 8; kind++ {
		met[kind] = map[int]int{}
	}
	return met
}

// With a code the guest is as it was, and there is no value and no name.
func TestP15RequestsAsReckoned(t *testing.T) {
	met := noneMet()
	for i, g := range exampleGuests() {
		where := "guest " + strconv.Itoa(i)
		for _, q := range reqsForGuest(g) {
			got, r := wantGuestDone(t, where, g, q)
			if !impl.GuestOK(got) || !rightGuest(got) {
				t.Error(where, "is not right any more:", named(q))
			}
			if r.Code != impl.OK && (!alikeGuests(got, g) || r.Value != 0 || len(r.Names) != 0) {
				t.Error(where, "is changed, or told, with a code:", named(q), r)
			}
			met[q.Kind][r.Code]++
		}
		if t.Failed() {
			return
		}
	}
	wantGuestKindsMet(t, met)
}

// wantSideBySide does a request on an image and on its guest: the replies are the same, and the image shows the guest again, but where the image is full.
func wantSideBySide(t *testing.T, where string, m impl.Image, g impl.Guest, q impl.Req) (impl.Image, impl.Guest, impl.Reply) {
	t.Helper()
	next, r, code := impl.ReqDo(m, q)
	wantOK(t, where+": ReqDo", code)
	after, s, code := impl.GuestDo(g, q)
	wantOK(t, where+": GuestDo", code)
	shown, code := impl.GuestOf(next)
	wantOK(t, where+": GuestOf", code)
	if r.Code == impl.ErrFull {
		want := cloneGuest(g)
		want.Values[q.G] = q.Value
		wantGuest(t, where+", full: "+named(q), after, s.Code, want, impl.OK)
		wantGuest(t, where+", full, as it was: "+named(q), shown, code, g, impl.OK)
		// It stays with what the image shows.
		return next, g, r
	}
	if !sameReply(r, s) {
		t.Errorf("%s: %s: an image answers %v, a guest %v", where, named(q), r, s)
	}
	if !impl.SameGuest(shown, after) || !alikeGuests(shown, after) {
		t.Errorf("%s: %s: an image shows %v, a guest has %v", where, named(q), shown, after)
	}
	return next, after, r
}

func TestP15ImagesAndGuestsDoTheSame(t *testing.T) {
	met := noneMet()
	for i, m := range storeImages() {
		g, code := impl.GuestOf(m)
		wantOK(t, "GuestOf", code)
		for _, q := range reqsFor(m) {
			_, _, r := wantSideBySide(t, "image "+strconv.Itoa(i), m, g, q)
			met[q.Kind][r.Code]++
		}
		if t.Failed() {
			return
		}
	}
	wantKindsMet(t, met)
}

func TestP15Walks(t *testing.T) {
	r := rand.New(rand.NewSource(151))
	met, shots := noneMet(), map[int]int{}
	for _, m := range exampleImages() {
		g, code := impl.GuestOf(m)
		wantOK(t, "GuestOf", code)
		for range 250 {
			q := anyReq(r)
			var reply impl.Reply
			m, g, reply = wantSideBySide(t, "walk", m, g, q)
			met[q.Kind][reply.Code]++
			shots[len(g.Shots)]++
			if t.Failed() {
				t.Fatal("behind", m, g)
			}
		}
	}
	wantKindsMet(t, met)
	if len(shots) != 4 || met[2][impl.ErrFull] < 5 {
		t.Error("too little was met:", shots, met[2])
	}
}

// A guest alone goes where no image could follow: 48 values, none twice.
func TestP15GuestsAlwaysHaveRoom(t *testing.T) {
	g, code := impl.NewGuest(12)
	wantOK(t, "NewGuest", code)
	want := fullGuest()
	// The shots' values come first, the guest's own last.
	for _, list := range []int{1, 2, 3, 0} {
		for k, value := range valuesIn(want)[list] {
			g, _ = wantGuestDone(t, "a full guest", g, impl.Req{Kind: impl.RqWrite, G: k, Value: value})
		}
		if list > 0 {
			g, _ = wantGuestDone(t, "a full guest", g, impl.Req{Kind: impl.RqCreate, Name: want.Shots[list-1].Name})
		}
	}
	wantGuest(t, "a full guest", g, impl.OK, want, impl.OK)
	for k := range 12 {
		if _, r := wantGuestDone(t, "a full guest", g, impl.Req{Kind: impl.RqRead, G: k}); !sameReply(r, impl.Reply{Value: k + 1}) {
			t.Error("read", k, r)
		}
	}
}

func TestP15FullImages(t *testing.T) {
	m := usedUpBySnaps()
	g, code := impl.GuestOf(m)
	wantOK(t, "GuestOf", code)
	// The last of its clusters is its own.
	for at := range 5 {
		q := impl.Req{Kind: impl.RqWrite, G: at, Value: 7}
		if _, _, r := wantSideBySide(t, "full", m, g, q); r.Code != impl.ErrFull {
			t.Error("it is full:", at, r)
		}
		// It shows what a guest has that did not do it, and does all else like it.
		for _, q := range []impl.Req{{Kind: 1, G: at}, {Kind: 3, G: at}, {Kind: 4, G: at}, {Kind: 7, Name: "a"}, {Kind: 8}, {Kind: 2, G: 5, Value: 9}, {Kind: 2, G: at, Value: -1}, {Kind: 2, G: 6}} {
			if _, _, r := wantSideBySide(t, "full", m, g, q); r.Code == impl.ErrFull {
				t.Error("it needs no room:", named(q))
			}
		}
	}
	m, g, _ = wantSideBySide(t, "room", m, g, impl.Req{Kind: impl.RqDelete, Name: "b"})
	if _, _, r := wantSideBySide(t, "room", m, g, impl.Req{Kind: impl.RqWrite, G: 4, Value: 7}); r.Code != impl.OK {
		t.Error("there is room:", r)
	}
}

// Guests that are not right, requests that are not right, and both at once: nothing is answered at all.
func TestP15WrongGuestsAndRequests(t *testing.T) {
	few := []impl.Req{{Kind: 1}, {Kind: 1, G: -1}, {Kind: 2, G: 1, Value: 7}, {Kind: 3, G: 99}, {Kind: 4, G: 3}, {Kind: 5, Name: "new"}, {Kind: 5, Name: "A"}, {Kind: 6, Name: "a"}, {Kind: 7, Name: "none"}, {Kind: 8}}
	for _, w := range wrongGuests() {
		for _, q := range few {
			wantGuestNotDone(t, w.name, w.guest, q)
		}
	}
	for _, g := range append(fewGuests(), fewWrongGuests()...) {
		for _, q := range wrongReqs() {
			wantGuestNotDone(t, "no request", g, q)
		}
	}
}
