package tests

import (
	"slices"
	"strconv"
	"testing"

	"loop.example/g00456/impl"
)

// Promise 11, of guests, and of what GuestOf tells of images: p15_reckoning_test.go says what guests are held against. Here what is asked is told of what was there alone.

// side is a guest, or an image that is looked at by GuestOf.
type side struct {
	name  string
	guest func() impl.Guest
	do    func(q impl.Req) impl.Reply
}

func guestSide(t *testing.T, g impl.Guest) side {
	return side{"a guest", func() impl.Guest { return g }, func(q impl.Req) impl.Reply {
		next, r, code := impl.GuestDo(g, q)
		wantOK(t, "GuestDo "+named(q), code)
		g = next
		return r
	}}
}

func imageSide(t *testing.T, m impl.Image) side {
	return side{"an image", func() impl.Guest {
		g, code := impl.GuestOf(m)
		wantOK(t, "GuestOf", code)
		return g
	}, func(q impl.Req) impl.Reply {
		next, r, code := impl.ReqDo(m, q)
		wantOK(t, "ReqDo "+named(q), code)
		m = next
		return r
	}}
}

// sides are made anew for each thing that is done.
func sides() []func(t *testing.T) side {
	var out []func(t *testing.T) side
	for _, g := range exampleGuests() {
		out = append(out, func(t *testing.T) side { return guestSide(t, g) })
	}
	for _, m := range exampleImages() {
		out = append(out, func(t *testing.T) side { return imageSide(t, m) })
	}
	return out
}

func wantSide(t *testing.T, where string, s side, want impl.Guest) {
	t.Helper()
	wantGuest(t, s.name+", "+where, s.guest(), impl.OK, want, impl.OK)
}

// What is written is read; no other cluster is changed, and no shot.
func TestP11GuestsReadWhatIsWritten(t *testing.T) {
	for _, start := range sides() {
		for g := range start(t).guest().Values {
			for _, value := range anyValues() {
				s := start(t)
				want := guestLike(s.guest(), func(x *impl.Guest) { x.Values[g] = value })
				if r := s.do(impl.Req{Kind: impl.RqWrite, G: g, Value: value}); r.Code == impl.ErrFull && s.name == "an image" {
					wantSide(t, "full", s, start(t).guest())
					continue
				}
				wantSide(t, "written", s, want)
				if r := s.do(impl.Req{Kind: impl.RqRead, G: g}); !sameReply(r, impl.Reply{Value: value}) {
					t.Error(s.name, "read", g, r)
				}
				wantSide(t, "written and read", s, want)
			}
			s := start(t)
			want := guestLike(s.guest(), func(x *impl.Guest) { x.Values[g] = 0 })
			if r := s.do(impl.Req{Kind: impl.RqZero, G: g}); !sameReply(r, impl.Reply{}) {
				t.Error(s.name, "zero", g, r)
			}
			wantSide(t, "zeroed", s, want)
		}
		if t.Failed() {
			return
		}
	}
}

// works are what may be done behind a new shot: all is written, zeroed, cut off, made longer, and shots come and go.
func works(size int, shots []string) [][]impl.Req {
	all := func(size, kind int, values ...int) []impl.Req {
		var out []impl.Req
		for g := range size {
			for _, value := range values {
				out = append(out, impl.Req{Kind: kind, G: g, Value: value})
			}
		}
		return out
	}
	out := [][]impl.Req{
		nil, all(size, 2, 5), all(size, 2, 5, 0, mostNumber), all(size, 3, 0), append(all(size, 3, 0), all(size, 2, 6)...),
		{{Kind: 4}}, {{Kind: 4, G: 12}}, {{Kind: 4}, {Kind: 4, G: 12}},
		slices.Concat([]impl.Req{{Kind: 4}, {Kind: 4, G: 12}}, all(12, 2, 7)),
	}
	for _, name := range shots {
		out = append(out,
			append([]impl.Req{{Kind: 7, Name: name}, {Kind: 4, G: 12}}, all(12, 2, 8)...),
			append([]impl.Req{{Kind: 6, Name: name}, {Kind: 5, Name: "other"}}, all(size, 2, 9)...))
	}
	return out
}

// Going back to a shot all is as it was when it was made, whatever was done since.
func TestP11GuestsGoBack(t *testing.T) {
	for _, start := range sides() {
		was := start(t).guest()
		if len(was.Shots) == 3 {
			continue
		}
		for i, work := range works(len(was.Values), shotNames(was)) {
			s := start(t)
			if r := s.do(impl.Req{Kind: impl.RqCreate, Name: "new"}); !sameReply(r, impl.Reply{}) {
				t.Fatal(s.name, "create", r)
			}
			taken := guestLike(was, func(g *impl.Guest) { g.Shots = append(g.Shots, impl.Shot{Name: "new", Values: was.Values}) })
			wantSide(t, "a new shot", s, taken)
			for _, q := range work {
				if r := s.do(q); r.Code != impl.OK && (r.Code != impl.ErrFull || s.name == "a guest") {
					t.Error(s.name, named(q), r)
				}
			}
			where := "work " + strconv.Itoa(i)
			kept := s.guest().Shots
			if r := s.do(impl.Req{Kind: impl.RqRevert, Name: "new"}); !sameReply(r, impl.Reply{}) {
				t.Error(s.name, "revert", r)
			}
			wantSide(t, where, s, impl.Guest{Values: was.Values, Shots: kept})
			for _, shot := range kept {
				if at := slices.Index(shotNames(taken), shot.Name); at >= 0 && !slices.Equal(shot.Values, taken.Shots[at].Values) {
					t.Error(s.name, where, "a shot is another one:", shot)
				}
			}
		}
		if t.Failed() {
			return
		}
	}
}

// Each shot that there is, gone back to from any values, is what the guest has then; it stays, and is gone back to again behind other writes.
func TestP11GuestsGoBackToEachShot(t *testing.T) {
	for _, start := range sides() {
		was := start(t).guest()
		for _, shot := range was.Shots {
			s := start(t)
			for range 2 {
				s.do(impl.Req{Kind: impl.RqRevert, Name: shot.Name})
				wantSide(t, "gone back to "+shot.Name, s, impl.Guest{Values: shot.Values, Shots: was.Shots})
				for g := range shot.Values {
					s.do(impl.Req{Kind: impl.RqZero, G: g})
				}
				wantSide(t, "zeroed behind it", s, impl.Guest{Values: make([]int, len(shot.Values)), Shots: was.Shots})
				s.do(impl.Req{Kind: impl.RqResize})
				wantSide(t, "cut off behind it", s, impl.Guest{Shots: was.Shots})
			}
		}
	}
}

// What is cut off is gone: made longer again there are zeros, whatever stood there.
func TestP11GuestsLoseWhatIsCutOff(t *testing.T) {
	for _, start := range sides() {
		was := start(t).guest()
		long := slices.Concat(was.Values, make([]int, 12))
		for size := range 13 {
			s := start(t)
			want := guestLike(was, func(g *impl.Guest) { g.Values = slices.Clone(long[:size]) })
			s.do(impl.Req{Kind: impl.RqResize, G: size})
			wantSide(t, "of another size", s, want)
			s.do(impl.Req{Kind: impl.RqResize, G: 12})
			wantSide(t, "made longer again", s, guestLike(want, func(g *impl.Guest) { g.Values = append(g.Values, make([]int, 12-size)...) }))
		}
	}
}

// A shot that is deleted takes nothing from the guest nor from the other ones, which keep their order; made again it is the last one.
func TestP11GuestsWithoutAShot(t *testing.T) {
	for _, start := range sides() {
		was := start(t).guest()
		for i, shot := range was.Shots {
			s := start(t)
			want := guestLike(was, func(g *impl.Guest) { g.Shots = slices.Delete(g.Shots, i, i+1) })
			s.do(impl.Req{Kind: impl.RqDelete, Name: shot.Name})
			wantSide(t, "deleted", s, want)
			for _, kind := range []int{impl.RqDelete, impl.RqRevert} {
				if r := s.do(impl.Req{Kind: kind, Name: shot.Name}); !sameReply(r, impl.Reply{Code: impl.ErrNone}) {
					t.Error(s.name, "it is there still:", r)
				}
			}
			wantSide(t, "asked for again", s, want)
			s.do(impl.Req{Kind: impl.RqCreate, Name: shot.Name})
			want.Shots = append(want.Shots, impl.Shot{Name: shot.Name, Values: want.Values})
			wantSide(t, "made again", s, want)
		}
	}
}
