package tests

import (
	"slices"
	"testing"

	"loop.example/g00456/impl"
)

// Promise 1, of the calls of chapter 16.

var (
	guardHost = impl.Host{State: 77, Gen: 777, Renewed: 7777}
	guardAct  = impl.Act{Kind: 77, Host: 777, Req: impl.Req{Name: guard}}
)

// roomyWorld has guards behind the ends of all its lists.
func roomyWorld(w impl.World) impl.World {
	w.Disk, w.Hosts, w.Guest = roomy(w.Disk), guarded(w.Hosts, guardHost), roomyGuest(w.Guest)
	return w
}

// untouchedWorld tells whether the roomy world w is still like was, and its guards stand.
func untouchedWorld(w, was impl.World) bool {
	behind := w.Hosts[len(w.Hosts) : len(w.Hosts)+3]
	return alikeWorlds(w, was) && untouched(w.Disk, was.Disk) && untouchedGuest(w.Guest, was.Guest) &&
		slices.Equal(behind, []impl.Host{guardHost, guardHost, guardHost})
}

// scribbleWorld writes over all of its memory, also over what stands behind the ends of its lists.
func scribbleWorld(w impl.World) {
	scribble(w.Disk)
	fillUp(w.Hosts, impl.Host{State: -9, Gen: -9, Renewed: -9})
	scribbleGuest(w.Guest)
}

// worldAnswer is what any of the calls answers; what a call has not stays zero.
type worldAnswer struct {
	world   impl.World
	replies []impl.Reply
	number  int
	code    int
}

func sameWorldAnswer(a, b worldAnswer) bool {
	return alikeWorlds(a.world, b.world) && sameReplies(a.replies, b.replies) && a.number == b.number && a.code == b.code
}

func cloneWorldAnswer(a worldAnswer) worldAnswer {
	a.world, a.replies = cloneWorld(a.world), slices.Clone(a.replies)
	for i, r := range a.replies {
		a.replies[i].Names = slices.Clone(r.Names)
	}
	return a
}

func scribbleWorldAnswer(a worldAnswer) {
	scribbleWorld(a.world)
	for _, r := range a.replies {
		fillUp(r.Names, "scribbled")
	}
	fillUp(a.replies, impl.Reply{Code: -9, Names: []string{"scribbled"}})
}

type worldCall struct {
	name string
	run  func(w impl.World) worldAnswer
}

// worldCalls are the calls on worlds, with arguments that are right and that are none.
func worldCalls() []worldCall {
	out := []worldCall{
		{"WorldOK", func(w impl.World) worldAnswer { return worldAnswer{number: numberOf(impl.WorldOK(w))} }},
		{"WorldAgrees", func(w impl.World) worldAnswer {
			ok, code := impl.WorldAgrees(w)
			return worldAnswer{number: numberOf(ok), code: code}
		}},
	}
	for _, host := range anyHosts() {
		out = append(out, worldCall{"MayWrite", func(w impl.World) worldAnswer {
			ok, code := impl.MayWrite(w, host)
			return worldAnswer{number: numberOf(ok), code: code}
		}})
	}
	for _, a := range worldActs() {
		out = append(out, worldCall{"WorldDo", func(w impl.World) worldAnswer {
			next, r, code := impl.WorldDo(w, a)
			return worldAnswer{world: next, replies: []impl.Reply{r}, code: code}
		}})
	}
	return out
}

// worldActs are a few of each kind, some of them at bounds, and some that are none.
func worldActs() []impl.Act {
	out := []impl.Act{ticksAct(0), ticksAct(60), ticksAct(100000), {}, {Kind: 7}, {Kind: greatest}, openAct(-1), openAct(4), ticksAct(-1), reqAct(1, impl.Req{}), crashAct(1, 101, 0, writeReq(0, 1)), crashAct(1, least, greatest, writeReq(0, 1)), {Kind: 1, Req: writeReq(0, 1)}}
	for host := range 4 {
		out = append(out, openAct(host), closeAct(host), renewAct(host),
			reqAct(host, writeReq(0, 9)), reqAct(host, impl.Req{Kind: 8}), reqAct(host, createReq("new")), reqAct(host, impl.Req{Kind: 7, Name: "s"}), reqAct(host, writeReq(99, 9)),
			crashAct(host, 0, 0, writeReq(0, 9)), crashAct(host, 5, 1, writeReq(0, 9)), crashAct(host, 100, 100, impl.Req{Kind: 6, Name: "s"}))
	}
	return out
}

func everyWorldCall(f func(where string, w impl.World, c worldCall)) {
	calls := worldCalls()
	for _, w := range exampleWorlds() {
		for _, c := range calls {
			f(w.name+": "+c.name, w.world, c)
		}
	}
	for _, w := range fewWrongWorlds() {
		for _, c := range calls {
			f("no world: "+c.name, w, c)
		}
	}
}

// worldsBusy is what may be called between two alike calls.
func worldsBusy() {
	w, _, _ := impl.WorldRun(plainConfig(), 3, []impl.Act{openAct(2), reqAct(2, writeReq(1, 5)), crashAct(2, 3, 1, writeReq(1, 6)), openAct(2), reqAct(2, createReq("busy"))})
	impl.WorldDo(w, reqAct(2, impl.Req{Kind: 8}))
	impl.WorldDo(w, crashAct(2, 0, 0, writeReq(0, 1)))
	impl.MayWrite(w, 2)
	impl.WorldAgrees(w)
	impl.NewWorld(impl.Config{}, 5)
	impl.WorldDo(impl.World{}, impl.Act{})
}

func TestP1WorldsLeaveArgumentsAsTheyAre(t *testing.T) {
	everyWorldCall(func(where string, w impl.World, c worldCall) {
		given := roomyWorld(w)
		got := c.run(given)
		if !untouchedWorld(given, w) {
			t.Fatal("the argument was changed, or what stands behind its end:", where)
		}
		want := cloneWorldAnswer(got)
		scribbleWorld(given)
		if !sameWorldAnswer(got, want) {
			t.Fatal("writing into the argument changed the answer:", where)
		}
		given = roomyWorld(w)
		scribbleWorldAnswer(c.run(given))
		if !untouchedWorld(given, w) {
			t.Fatal("writing into the answer changed the argument:", where)
		}
	})
}

func TestP1WorldsHaveAlikeAnswersInNewMemory(t *testing.T) {
	calls := 0
	everyWorldCall(func(where string, w impl.World, c worldCall) {
		first := c.run(w)
		// Now and then alone: it takes longer than the call itself.
		if calls++; calls%17 == 0 {
			worldsBusy()
		}
		second := c.run(cloneWorld(w))
		want := cloneWorldAnswer(second)
		if !sameWorldAnswer(first, second) {
			t.Fatal("another answer to alike arguments:", where)
		}
		scribbleWorldAnswer(first)
		if !sameWorldAnswer(second, want) {
			t.Fatal("two answers share memory:", where)
		}
	})
}

// wantWorldApart writes over each list of an answer in its turn, and asks that none of the others is changed by it.
func wantWorldApart(t *testing.T, where string, a worldAnswer) {
	t.Helper()
	overwrite := []func(a worldAnswer){
		func(a worldAnswer) { fillUp(a.world.Disk.Sectors, "scribbled") },
		func(a worldAnswer) { fillUp(a.world.Disk.Pending, guardIo) },
		func(a worldAnswer) { fillUp(a.world.Hosts, guardHost) },
		func(a worldAnswer) { scribbleInts(a.world.Guest.Values) },
		func(a worldAnswer) { fillUp(a.world.Guest.Shots, guardShot) },
	}
	for i := range a.world.Guest.Shots {
		overwrite = append(overwrite, func(a worldAnswer) { scribbleInts(a.world.Guest.Shots[i].Values) })
	}
	for i := range a.replies {
		overwrite = append(overwrite, func(a worldAnswer) { fillUp(a.replies[i].Names, "scribbled") })
	}
	for i, f := range overwrite {
		was := cloneWorldAnswer(a)
		f(a)
		want := cloneWorldAnswer(was)
		f(want)
		if !sameWorldAnswer(a, want) {
			t.Fatal("two lists of one answer share memory:", where, i)
		}
		// Set right again, in the same memory.
		copy(a.world.Disk.Sectors, was.world.Disk.Sectors)
		copy(a.world.Disk.Pending, was.world.Disk.Pending)
		copy(a.world.Hosts, was.world.Hosts)
		copy(a.world.Guest.Values, was.world.Guest.Values)
		for k, s := range was.world.Guest.Shots {
			a.world.Guest.Shots[k].Name = s.Name
			if a.world.Guest.Shots[k].Values == nil {
				a.world.Guest.Shots[k].Values = s.Values
			}
			copy(a.world.Guest.Shots[k].Values, s.Values)
		}
		for k, r := range was.replies {
			copy(a.replies[k].Names, r.Names)
		}
	}
}

func TestP1WorldsShareNoMemoryWithin(t *testing.T) {
	everyWorldCall(func(where string, w impl.World, c worldCall) {
		wantWorldApart(t, where, c.run(w))
	})
	list := []impl.Act{openAct(1), reqAct(1, createReq("a")), reqAct(1, impl.Req{Kind: 8}), reqAct(1, createReq("b")), reqAct(1, impl.Req{Kind: 8}), reqAct(1, impl.Req{Kind: 8}), reqAct(1, impl.Req{Kind: 7, Name: "a"})}
	for size := range 13 {
		first, code := impl.NewWorld(plainConfig(), size)
		wantWorldApart(t, "NewWorld", worldAnswer{world: first, code: code})
		scribbleWorld(first)
		second, code := impl.NewWorld(plainConfig(), size)
		wantWorld(t, "NewWorld, again", second, code, newWorldBy(plainConfig(), size), impl.OK)
		w, replies, code := impl.WorldRun(plainConfig(), size, list)
		wantWorldApart(t, "WorldRun", worldAnswer{world: w, replies: replies, code: code})
		scribbleWorldAnswer(worldAnswer{world: w, replies: replies})
		wantWorldRun(t, "WorldRun, again", plainConfig(), size, list)
	}
}

func TestP1RunsLeaveTheirActsAsTheyAre(t *testing.T) {
	for _, list := range [][]impl.Act{nil, worldActs(), {openAct(1), reqAct(1, impl.Req{Kind: 8}), closeAct(1)}, slices.Repeat([]impl.Act{openAct(2)}, 80), slices.Repeat([]impl.Act{openAct(2)}, 81), slices.Repeat([]impl.Act{{}}, impl.MaxList+1)} {
		given := guarded(list, guardAct)
		first, replies, code := impl.WorldRun(plainConfig(), 4, given)
		wantGuarded(t, "WorldRun", given, list, guardAct)
		want := cloneWorldAnswer(worldAnswer{world: first, replies: replies, code: code})
		fillUp(given, guardAct)
		worldsBusy()
		second, again, code := impl.WorldRun(plainConfig(), 4, slices.Clone(list))
		if !sameWorldAnswer(worldAnswer{world: first, replies: replies, code: want.code}, want) || !sameWorldAnswer(worldAnswer{world: second, replies: again, code: code}, want) {
			t.Error("another answer to alike acts, or a shared one:", len(list))
		}
	}
}

// A world whose lists are pieces of one memory: none of them is written, and the answer's are apart.
func TestP1WorldsTakeListsThatShareMemory(t *testing.T) {
	w := behind(newWorldBy(plainConfig(), 3), openAct(1), reqAct(1, createReq("s")), reqAct(1, createReq("t")))
	values := roomyInts([]int{0, 0, 0})
	w.Guest = impl.Guest{Values: values, Shots: guarded([]impl.Shot{{Name: "s", Values: values}, {Name: "t", Values: values}}, guardShot)}
	was := cloneWorld(w)
	for _, a := range worldActs() {
		got, r, code := impl.WorldDo(w, a)
		wantWorldApart(t, "shared lists", worldAnswer{world: got, replies: []impl.Reply{r}, code: code})
		scribbleWorld(got)
		if !alikeWorlds(w, was) || !untouchedInts(values, was.Guest.Values) {
			t.Fatal("the argument was changed, or what stands behind its end:", a)
		}
	}
}

func TestP1WorldsHoldNilAndEmptyForTheSame(t *testing.T) {
	base := behind(newWorldBy(plainConfig(), 0), openAct(1), reqAct(1, createReq("s")))
	none, empty := cloneWorld(base), cloneWorld(base)
	none.Disk.Pending, none.Guest.Values, none.Guest.Shots[0].Values = nil, nil, nil
	empty.Disk.Pending, empty.Guest.Values, empty.Guest.Shots[0].Values = []impl.Io{}, []int{}, []int{}
	bare, barely := behind(newWorldBy(plainConfig(), 0), openAct(1)), behind(newWorldBy(plainConfig(), 0), openAct(1))
	bare.Guest.Shots, barely.Guest.Shots = nil, []impl.Shot{}
	for _, c := range worldCalls() {
		if !sameWorldAnswer(c.run(none), c.run(empty)) || !sameWorldAnswer(c.run(bare), c.run(barely)) {
			t.Error("nil and an empty list are told apart:", c.name)
		}
	}
	wantWorld(t, "nil acts", firstOf(impl.WorldRun(plainConfig(), 4, nil)), impl.OK, firstOf(impl.WorldRun(plainConfig(), 4, []impl.Act{})), impl.OK)
}

func firstOf(w impl.World, _ []impl.Reply, _ int) impl.World { return w }

// With ErrBad a world is empty; with another code it is as it was, but that who fences itself is closed, and that the disk of who opens is as far as it came.
func TestP1WorldsWithACode(t *testing.T) {
	met := map[string]map[int]int{}
	everyWorldCall(func(where string, w impl.World, c worldCall) {
		a := c.run(w)
		if met[c.name] == nil {
			met[c.name] = map[int]int{}
		}
		met[c.name][a.code]++
		if a.code == impl.OK {
			return
		}
		zero := worldAnswer{code: a.code}
		if c.name == "WorldDo" {
			zero.replies = make([]impl.Reply, 1)
		}
		got := cloneWorldAnswer(a)
		got.world = impl.World{}
		if !sameWorldAnswer(got, zero) {
			t.Fatal("something is told with a code:", where, a.code)
		}
		next := a.world
		switch a.code {
		case impl.ErrBad:
			w = impl.World{}
		case impl.ErrFenced, impl.ErrStale:
			for i, h := range next.Hosts {
				if h.State == impl.HoClosed && w.Hosts[i].State == impl.HoOpen {
					next = withState(next, i, impl.HoOpen)
				}
			}
		case impl.ErrHeld, impl.ErrMany, impl.ErrAbort, impl.ErrBroken:
			next.Disk = w.Disk
		}
		if c.name == "WorldDo" && !alikeWorlds(next, w) {
			t.Fatal("the world is not as it was:", where, a.code)
		}
	})
	for name, want := range map[string][]int{
		"WorldOK": {impl.OK}, "WorldAgrees": {impl.OK, impl.ErrBad}, "MayWrite": {impl.OK, impl.ErrBad, impl.ErrRange},
		"WorldDo": {impl.OK, impl.ErrBad, impl.ErrOpen, impl.ErrHeld, impl.ErrMany, impl.ErrAbort, impl.ErrBroken, impl.ErrClosed, impl.ErrFenced, impl.ErrStale, impl.ErrRange},
	} {
		for _, code := range want {
			if met[name][code] == 0 {
				t.Error(name, "never answered", code)
			}
		}
		if len(met[name]) != len(want) {
			t.Error(name, "answered other codes:", met[name])
		}
	}
}

// Whatever is handed in, no call panics, and each ends.
func TestP1WorldsTakeAnything(t *testing.T) {
	numbers := []int{0, 1, 3, 4, -1, 1000000, 1000001, mostNumber, 1 << 32, least, greatest}
	worlds := []impl.World{workedWorld(), {}, {Hosts: make([]impl.Host, 4)}, {Disk: emptyDisk()}, {Disk: emptyDisk(), Config: plainConfig(), Hosts: make([]impl.Host, 4)}}
	for _, w := range worlds {
		for _, n := range numbers {
			for _, k := range numbers {
				w := cloneWorld(w)
				for i := range w.Hosts {
					w.Hosts[i] = impl.Host{State: n % 3, Gen: k, Renewed: n}
				}
				w.Time = k
				for _, a := range []impl.Act{{Kind: n, Host: k}, {Kind: 2, Host: n, Req: impl.Req{Kind: k}}, {Kind: 3, Step: n, Keep: k, Req: writeReq(n, k)}, {Kind: 6, N: n}, {Kind: 1, Host: 2}, {Kind: 1, Host: n}, {Kind: 2, Req: impl.Req{Kind: 4, G: n}}} {
					got, _, code := impl.WorldDo(w, a)
					want, _, wantCode := worldOrNothingBy(w, a)
					wantWorld(t, "anything", got, code, want, wantCode)
				}
				impl.MayWrite(w, n)
				impl.WorldAgrees(w)
				impl.NewWorld(impl.Config{Fail: n, Dead: k, Delay: n, Drift: k}, n)
				impl.WorldRun(impl.Config{Fail: 10, Dead: 60, Drift: n}, k, []impl.Act{{Kind: n, Host: k, N: n}})
			}
		}
	}
}

// worldOrNothingBy takes any world and any act.
func worldOrNothingBy(w impl.World, a impl.Act) (impl.World, impl.Reply, int) {
	if !rightWorld(w) || !rightAct(a) {
		return impl.World{}, impl.Reply{}, impl.ErrBad
	}
	return worldDoneBy(w, a)
}
