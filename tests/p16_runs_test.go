package tests

import (
	"fmt"
	"math/rand"
	"slices"
	"testing"

	"loop.example/g00456/impl"
)

// Promise 16, of whole runs; p16_reckoning_test.go says what they are held against.

func sameReplies(a, b []impl.Reply) bool {
	return slices.EqualFunc(a, b, sameReply)
}

// runWorldBy takes a right configuration, a size, and right acts.
func runWorldBy(c impl.Config, size int, list []impl.Act) (impl.World, []impl.Reply) {
	w := newWorldBy(c, size)
	var out []impl.Reply
	for _, a := range list {
		next, r, code := worldDoneBy(w, a)
		if code != impl.OK {
			r = impl.Reply{Code: code}
		}
		w, out = next, append(out, r)
	}
	return w, out
}

func wantWorldRun(t *testing.T, where string, c impl.Config, size int, list []impl.Act) []impl.Reply {
	t.Helper()
	w, got, code := impl.WorldRun(c, size, list)
	want, replies := runWorldBy(c, size, list)
	wantWorld(t, where, w, code, want, impl.OK)
	if !sameReplies(got, replies) {
		t.Errorf("%s: replies %v, not %v", where, got, replies)
	}
	return got
}

func wantNoWorldRun(t *testing.T, where string, c impl.Config, size int, list []impl.Act, want int) {
	t.Helper()
	w, got, code := impl.WorldRun(c, size, list)
	wantWorld(t, where, w, code, impl.World{}, want)
	if len(got) != 0 {
		t.Error(where, "has replies:", len(got))
	}
}

func TestP16RunsByHand(t *testing.T) {
	list := []impl.Act{
		openAct(0), reqAct(0, writeReq(0, 3)), reqAct(0, impl.Req{Kind: 1, G: 9}), openAct(1), reqAct(1, impl.Req{Kind: 8}), reqAct(0, createReq("a")), reqAct(0, impl.Req{Kind: 8}), reqAct(0, impl.Req{Kind: 1}),
		crashAct(0, 1, 0, writeReq(1, 1)), openAct(0), ticksAct(10), renewAct(0), renewAct(0), openAct(0), closeAct(0), openAct(2), ticksAct(100000), openAct(3), reqAct(3, impl.Req{Kind: 1}),
	}
	want := []impl.Reply{
		{}, {}, {Code: impl.ErrRange}, {Code: impl.ErrHeld}, {Code: impl.ErrClosed}, {}, {Value: 4, Names: []string{"a"}}, {Value: 3},
		{}, {}, {}, {Code: impl.ErrFenced}, {Code: impl.ErrClosed}, {}, {}, {}, {}, {}, {Value: 3},
	}
	if got := wantWorldRun(t, "by hand", plainConfig(), 4, list); !sameReplies(got, want) {
		t.Errorf("%v, not %v", got, want)
	}
}

func TestP16Runs(t *testing.T) {
	r := rand.New(rand.NewSource(166))
	for range 150 {
		size, w := r.Intn(13), newWorldBy(plainConfig(), 6)
		var list []impl.Act
		for range r.Intn(81) {
			// Time is no matter here: a run may come to its end, and says so.
			a := anyAct(r, w)
			if a.Kind == impl.AcTicks && r.Intn(4) == 0 {
				a.N = 100000
			}
			w, _, _ = worldDoneBy(w, a)
			list = append(list, a)
		}
		w, _, _ = impl.WorldRun(plainConfig(), size, list)
		wantWorldRun(t, "run", plainConfig(), size, list)
		wantPromised(t, "run", w)
	}
	// Nothing is done of an act that goes beyond the end of time; those behind it are.
	late := append(slices.Repeat([]impl.Act{ticksAct(100000)}, 11), openAct(2), ticksAct(1), reqAct(2, impl.Req{Kind: 8}))
	got := wantWorldRun(t, "late", plainConfig(), 2, late)
	if got[9].Code != impl.OK || got[10].Code != impl.ErrRange || got[11].Code != impl.OK || got[12].Code != impl.ErrRange || got[13].Value != 2 {
		t.Error("the end of time:", got)
	}
}

func TestP16RunsOfNoActAndOfMany(t *testing.T) {
	for _, n := range []int{0, 1, 79, 80} {
		list := slices.Repeat([]impl.Act{ticksAct(1)}, n)
		wantWorldRun(t, fmt.Sprint(n, " acts"), plainConfig(), 4, list)
	}
	wantWorldRun(t, "nil", plainConfig(), 4, nil)
	for _, n := range []int{81, 82, 160, impl.MaxList} {
		for _, a := range []impl.Act{ticksAct(1), {}} {
			list := slices.Repeat([]impl.Act{a}, n)
			wantNoWorldRun(t, fmt.Sprint(n, " acts"), plainConfig(), 4, list, impl.ErrMany)
			wantNoWorldRun(t, fmt.Sprint(n, " acts, no size"), plainConfig(), 13, list, impl.ErrRange)
			wantNoWorldRun(t, fmt.Sprint(n, " acts, no configuration"), impl.Config{}, 4, list, impl.ErrBad)
			long := slices.Repeat([]impl.Act{a}, impl.MaxList+n)
			wantNoWorldRun(t, "too long", plainConfig(), 4, long, impl.ErrLong)
			wantNoWorldRun(t, "too long, no size", plainConfig(), -1, long, impl.ErrLong)
			wantNoWorldRun(t, "too long, no configuration", impl.Config{}, 13, long, impl.ErrLong)
		}
	}
}

// Faults are looked for in their order: the configuration, the size, how many acts, each of them.
func TestP16RunsThatAreNotRight(t *testing.T) {
	right := []impl.Act{openAct(0), reqAct(0, writeReq(0, 3))}
	none := []impl.Act{openAct(0), {Kind: 7}}
	for _, c := range append(wrongConfigs(), impl.Config{}, impl.Config{Fail: 1, Dead: 3}) {
		for _, size := range []int{4, 13, -1} {
			for _, list := range [][]impl.Act{nil, right, none} {
				wantNoWorldRun(t, fmt.Sprint(c), c, size, list, impl.ErrBad)
			}
		}
	}
	for _, size := range noSizes() {
		for _, list := range [][]impl.Act{nil, right, none} {
			wantNoWorldRun(t, fmt.Sprint("size ", size), plainConfig(), size, list, impl.ErrRange)
		}
	}
	// Wherever the act that is none stands, and whatever is done ahead of it.
	for i, a := range wrongActs() {
		list := slices.Repeat([]impl.Act{openAct(0)}, 1+i%80)
		list[i%len(list)] = a
		wantNoWorldRun(t, fmt.Sprintf("act %.200v", a), plainConfig(), 4, list, impl.ErrBad)
	}
}
