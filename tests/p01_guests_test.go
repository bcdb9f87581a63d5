package tests

import (
	"slices"
	"strconv"
	"strings"
	"testing"

	"loop.example/g00456/impl"
)

// Promise 1, of the calls of chapter 15. GuestOf stands among all calls on images (imageCalls); here are those that take a guest.

var guardShot = impl.Shot{Name: guard}

// roomyGuest has guards behind the ends of all its lists.
func roomyGuest(g impl.Guest) impl.Guest {
	g.Values, g.Shots = roomyInts(g.Values), guarded(g.Shots, guardShot)
	for i, s := range g.Shots {
		g.Shots[i].Values = roomyInts(s.Values)
	}
	return g
}

// untouchedGuest tells whether the roomy guest g is still like was, and its guards stand.
func untouchedGuest(g, was impl.Guest) bool {
	if !alikeGuests(g, was) || !untouchedInts(g.Values, was.Values) {
		return false
	}
	for i, s := range g.Shots {
		if !untouchedInts(s.Values, was.Shots[i].Values) {
			return false
		}
	}
	return !slices.ContainsFunc(g.Shots[len(g.Shots):len(g.Shots)+3], func(s impl.Shot) bool { return s.Name != guard || s.Values != nil })
}

// scribbleGuest writes over all of its memory, also over what stands behind the ends of its lists.
func scribbleGuest(g impl.Guest) {
	for _, values := range valuesIn(g) {
		scribbleInts(values)
	}
	fillUp(g.Shots, impl.Shot{Name: "scribbled", Values: []int{-9}})
}

// guestAnswer is what any of them answers; what a call has not stays zero.
type guestAnswer struct {
	guest  impl.Guest
	reply  impl.Reply
	lines  []string
	number int
	code   int
}

func sameGuestAnswer(a, b guestAnswer) bool {
	return alikeGuests(a.guest, b.guest) && sameReply(a.reply, b.reply) && slices.Equal(a.lines, b.lines) && a.number == b.number && a.code == b.code
}

func cloneGuestAnswer(a guestAnswer) guestAnswer {
	a.guest, a.lines = cloneGuest(a.guest), slices.Clone(a.lines)
	a.reply.Names = slices.Clone(a.reply.Names)
	return a
}

func scribbleGuestAnswer(a guestAnswer) {
	scribbleGuest(a.guest)
	fillUp(a.lines, "scribbled")
	fillUp(a.reply.Names, "scribbled")
}

type guestCall struct {
	name string
	run  func(g impl.Guest) guestAnswer
}

// guestCalls are the calls on guests, with arguments that are right and that are none.
func guestCalls() []guestCall {
	out := []guestCall{
		{"GuestOK", func(g impl.Guest) guestAnswer { return guestAnswer{number: numberOf(impl.GuestOK(g))} }},
		{"GuestText", func(g impl.Guest) (a guestAnswer) { a.lines, a.code = impl.GuestText(g); return a }},
		{"SameGuest", func(g impl.Guest) guestAnswer { return guestAnswer{number: numberOf(impl.SameGuest(g, g))} }},
	}
	for _, x := range append(fewGuests(), fewWrongGuests()...) {
		out = append(out,
			guestCall{"SameGuest", func(g impl.Guest) guestAnswer { return guestAnswer{number: numberOf(impl.SameGuest(g, x))} }},
			guestCall{"SameGuest", func(g impl.Guest) guestAnswer { return guestAnswer{number: numberOf(impl.SameGuest(x, g))} }})
	}
	for _, q := range append(fewReqs(), impl.Req{Kind: 2, Value: mostNumber}, impl.Req{Kind: 3}, impl.Req{Kind: 4, G: 12}, impl.Req{Kind: 4}, impl.Req{Kind: 6, Name: "a"}, impl.Req{Kind: 6, Name: "c"}, impl.Req{Kind: 7, Name: "b"}, impl.Req{Kind: 7, Name: "z"}, impl.Req{Kind: 5, Name: "a"},
		impl.Req{}, impl.Req{Kind: 9}, impl.Req{Kind: 1, Value: 1}, impl.Req{Kind: 5, Name: strings.Repeat("a", impl.MaxText+1)}) {
		out = append(out, guestCall{"GuestDo", func(g impl.Guest) (a guestAnswer) { a.guest, a.reply, a.code = impl.GuestDo(g, q); return a }})
	}
	return out
}

func everyGuestCall(f func(g impl.Guest, c guestCall)) {
	calls := guestCalls()
	for _, g := range append(exampleGuests(), fewWrongGuests()...) {
		for _, c := range calls {
			f(g, c)
		}
	}
}

// guestsBusy is what may be called between two alike calls.
func guestsBusy() {
	g, _ := impl.NewGuest(5)
	for _, q := range []impl.Req{{Kind: 2, G: 2, Value: 22}, {Kind: 5, Name: "busy"}, {Kind: 4, G: 1}, {Kind: 8}, {Kind: 7, Name: "busy"}, {Kind: 1, G: 9}, {Kind: 6, Name: "busy"}} {
		g, _, _ = impl.GuestDo(g, q)
	}
	impl.GuestText(g)
	impl.GuestOf(imageOf([]int{2}, []int{3}))
	impl.GuestOK(impl.Guest{Values: []int{-1}})
	impl.GuestDo(impl.Guest{Values: make([]int, 13)}, impl.Req{Kind: 8})
	impl.SameGuest(g, impl.Guest{})
}

func TestP1GuestsLeaveArgumentsAsTheyAre(t *testing.T) {
	everyGuestCall(func(g impl.Guest, c guestCall) {
		given := roomyGuest(g)
		got := c.run(given)
		if !untouchedGuest(given, g) {
			t.Fatal("the argument was changed, or what stands behind its end:", c.name)
		}
		want := cloneGuestAnswer(got)
		scribbleGuest(given)
		if !sameGuestAnswer(got, want) {
			t.Fatal("writing into the argument changed the answer:", c.name)
		}
		given = roomyGuest(g)
		scribbleGuestAnswer(c.run(given))
		if !untouchedGuest(given, g) {
			t.Fatal("writing into the answer changed the argument:", c.name)
		}
	})
}

func TestP1GuestsHaveAlikeAnswersInNewMemory(t *testing.T) {
	everyGuestCall(func(g impl.Guest, c guestCall) {
		first := c.run(g)
		guestsBusy()
		second := c.run(cloneGuest(g))
		want := cloneGuestAnswer(second)
		if !sameGuestAnswer(first, second) {
			t.Fatal("another answer to alike arguments:", c.name)
		}
		scribbleGuestAnswer(first)
		if !sameGuestAnswer(second, want) || !sameGuestAnswer(c.run(g), want) {
			t.Fatal("two answers share memory:", c.name)
		}
	})
}

// The order of shots is that of the list, however often it is asked for: a map's own order would be another one now and then.
func TestP1GuestsKeepTheirOrder(t *testing.T) {
	g := guestLike(fullGuest(), func(g *impl.Guest) { g.Shots[0].Name, g.Shots[2].Name = "zz", "a" })
	for range 200 {
		got, r, code := impl.GuestDo(g, impl.Req{Kind: impl.RqList})
		wantGuest(t, "list", got, code, g, impl.OK)
		if !slices.Equal(r.Names, []string{"zz", "b", "a"}) {
			t.Fatal("another order:", r.Names)
		}
		if lines, _ := impl.GuestText(g); !slices.Equal(lines, guestTextBy(g)) {
			t.Fatal("another order:", lines)
		}
	}
}

// wantGuestApart writes over each list of an answer in its turn, and asks that none of the others is changed by it.
func wantGuestApart(t *testing.T, name string, g impl.Guest) {
	t.Helper()
	lists := valuesIn(g)
	for i := range lists {
		was := cloneGuest(g)
		scribbleInts(lists[i])
		for k, values := range valuesIn(was) {
			if k != i && !slices.Equal(lists[k], values) {
				t.Fatal("two lists of one answer share memory:", name, i, k)
			}
		}
		copy(lists[i], valuesIn(was)[i])
	}
}

// Values and shots are apart, behind a new shot and behind one that is gone back to, too; so are a reply's names.
func TestP1GuestsShareNoMemoryWithin(t *testing.T) {
	everyGuestCall(func(g impl.Guest, c guestCall) {
		a := c.run(g)
		wantGuestApart(t, c.name, a.guest)
		was := cloneGuest(a.guest)
		fillUp(a.reply.Names, "scribbled")
		if !alikeGuests(a.guest, was) {
			t.Fatal("writing into the names changed the guest:", c.name)
		}
		names := slices.Clone(c.run(g).reply.Names)
		a = c.run(g)
		scribbleGuest(a.guest)
		if !slices.Equal(a.reply.Names, names) {
			t.Fatal("writing into the guest changed the names:", c.name)
		}
	})
	for size := range 13 {
		first, _ := impl.NewGuest(size)
		scribbleGuest(first)
		second, code := impl.NewGuest(size)
		wantGuest(t, "NewGuest, again", second, code, guestWith(make([]int, size)), impl.OK)
	}
	for _, m := range exampleImages() {
		g, _ := impl.GuestOf(m)
		wantGuestApart(t, "GuestOf", g)
	}
}

// What is written behind a shot is not written into it, either, in the same memory.
func TestP1GuestsShareNoMemoryFromRequestToRequest(t *testing.T) {
	for _, name := range []string{"a", "b", "c"} {
		before := fullGuest()
		back, _, code := impl.GuestDo(before, impl.Req{Kind: impl.RqRevert, Name: name})
		wantOK(t, "revert", code)
		was := cloneGuest(back)
		next, _, code := impl.GuestDo(back, impl.Req{Kind: impl.RqWrite, G: 0, Value: 999})
		wantGuest(t, "write", next, code, guestLike(was, func(g *impl.Guest) { g.Values[0] = 999 }), impl.OK)
		scribbleGuest(next)
		if !alikeGuests(back, was) || !alikeGuests(before, fullGuest()) {
			t.Error("a request changed what was there ahead of it:", name)
		}
	}
}

// A guest whose lists are pieces of one memory: none of them is written, and the answer's are apart.
func TestP1GuestsTakeListsThatShareMemory(t *testing.T) {
	values := roomyInts([]int{5, 0, 7, 9})
	g := impl.Guest{Values: values}
	for i := range 3 {
		g.Shots = append(g.Shots, impl.Shot{Name: string(rune('a' + i)), Values: values[:4-i]})
	}
	g.Shots = guarded(g.Shots, guardShot)
	was := cloneGuest(g)
	if !impl.GuestOK(g) || !impl.SameGuest(g, was) {
		t.Fatal("it is right:", g)
	}
	for _, q := range reqsForGuest(g) {
		got, _ := wantGuestDone(t, "shared lists", g, q)
		wantGuestApart(t, "shared lists", got)
		scribbleGuest(got)
		if !alikeGuests(g, was) || !untouchedInts(values, was.Values) {
			t.Fatal("the argument was changed, or what stands behind its end:", named(q))
		}
	}
}

func TestP1GuestsHoldNilAndEmptyForTheSame(t *testing.T) {
	for _, g := range []impl.Guest{{}, guestWith(nil, nil), guestWith([]int{1}, nil, []int{2}), guestWith(nil, nil, nil, nil), guestWith([]int{1})} {
		none, empty := cloneGuest(g), cloneGuest(g)
		if len(g.Values) == 0 {
			none.Values, empty.Values = nil, []int{}
		}
		if len(g.Shots) == 0 {
			none.Shots, empty.Shots = nil, []impl.Shot{}
		}
		for i, s := range g.Shots {
			if len(s.Values) == 0 {
				none.Shots[i].Values, empty.Shots[i].Values = nil, []int{}
			}
		}
		wantSameGuest(t, "nil and empty", none, empty, true)
		for _, c := range guestCalls() {
			if !sameGuestAnswer(c.run(none), c.run(empty)) {
				t.Error("nil and an empty list are told apart:", c.name)
			}
		}
	}
	// Where one comes of the other: cut off, made anew, or shown.
	cut, _, _ := impl.GuestDo(guestWith([]int{1}), impl.Req{Kind: impl.RqResize})
	made, _ := impl.NewGuest(0)
	m, _ := impl.NewImage(0)
	shown, _ := impl.GuestOf(m)
	for i, g := range []impl.Guest{cut, made, shown} {
		wantSameGuest(t, "no values "+strconv.Itoa(i), g, impl.Guest{}, true)
	}
}

func TestP1GuestsWithACodeAllElseIsZero(t *testing.T) {
	met := map[string]map[int]int{}
	everyGuestCall(func(g impl.Guest, c guestCall) {
		a := c.run(g)
		if met[c.name] == nil {
			met[c.name] = map[int]int{}
		}
		met[c.name][a.code]++
		if a.code != impl.OK && !sameGuestAnswer(a, guestAnswer{code: a.code}) {
			t.Fatal("something is told with a code:", c.name, a.code)
		}
		if a.reply.Code != impl.OK && !sameGuestAnswer(a, guestAnswer{guest: g, reply: impl.Reply{Code: a.reply.Code}}) {
			t.Fatal("something is changed, or told, with a reply's code:", c.name, a.reply.Code)
		}
	})
	for name, want := range map[string][]int{
		"GuestOK": {impl.OK}, "SameGuest": {impl.OK}, "GuestText": {impl.OK, impl.ErrBad}, "GuestDo": {impl.OK, impl.ErrBad},
	} {
		for _, code := range want {
			if met[name][code] == 0 {
				t.Error(name, "never answered", code)
			}
		}
		if len(met[name]) != len(want) {
			t.Error(name, "answered other codes:", met[name])
		}
	}
}
