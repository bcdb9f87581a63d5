package tests

import (
	"math/rand"
	"slices"
	"strconv"
	"strings"
	"testing"

	"loop.example/g00456/impl"
)

// Promise 14, of what requests do; p14_reckoning_test.go says what it is held against.

func named(q impl.Req) string {
	return strconv.Itoa(q.Kind) + " " + strconv.Itoa(q.G) + " " + strconv.Itoa(q.Value) + " " + strconv.Quote(q.Name[:min(len(q.Name), 12)]) + " (" + strconv.Itoa(len(q.Name)) + ")"
}

func wantDone(t *testing.T, where string, m impl.Image, q impl.Req) (impl.Image, impl.Reply) {
	t.Helper()
	want, wantReply := doneBy(m, q)
	got, r, code := impl.ReqDo(m, q)
	wantImage(t, where+": "+named(q), got, code, want, impl.OK)
	if !sameReply(r, wantReply) {
		t.Errorf("%s: %s: reply %v, not %v", where, named(q), r, wantReply)
	}
	return got, r
}

func wantNotDone(t *testing.T, where string, m impl.Image, q impl.Req) {
	t.Helper()
	got, r, code := impl.ReqDo(m, q)
	wantNoImage(t, where+": "+named(q), got, code, impl.ErrBad)
	if !sameReply(r, impl.Reply{}) {
		t.Errorf("%s: %s: a reply, %v", where, named(q), r)
	}
}

func TestP14Kinds(t *testing.T) {
	for i, kind := range []int{impl.RqRead, impl.RqWrite, impl.RqZero, impl.RqResize, impl.RqCreate, impl.RqDelete, impl.RqRevert, impl.RqList} {
		if kind != i+1 {
			t.Error("kind", i+1, "is", kind)
		}
	}
}

func TestP14WhichRequestsAreRight(t *testing.T) {
	for _, q := range rightReqs() {
		if !impl.ReqOK(q) {
			t.Error("it is right:", named(q))
		}
	}
	for _, q := range wrongReqs() {
		if impl.ReqOK(q) {
			t.Error("it is not right:", named(q))
		}
	}
}

// Any kind with anything that it may have a use for, or not.
func TestP14AllSortsOfRequests(t *testing.T) {
	names := []string{"", "a", "abcdef", "A", "sevenab", strings.Repeat("a", 65535), strings.Repeat("a", 65536), strings.Repeat("a", 65537)}
	met := map[bool]int{}
	for _, kind := range []int{-1, 0, 1, 2, 3, 4, 5, 6, 7, 8, 9, 10, least, greatest} {
		for _, g := range []int{0, 1, -1, mostNumber, mostNumber + 1, least, greatest} {
			for _, value := range []int{0, 1, -1, mostNumber, mostNumber + 1, least, greatest} {
				for _, name := range names {
					q := impl.Req{Kind: kind, G: g, Value: value, Name: name}
					got := impl.ReqOK(q)
					if got != rightReq(q) {
						t.Error("ReqOK says", got, "of", named(q))
					}
					met[got]++
				}
			}
		}
	}
	if met[true] != 3*7+7*7+3*7+1 {
		t.Error("as many are right:", met[true])
	}
}

func TestP14RequestsByHand(t *testing.T) {
	m := imageOf([]int{0, 2, 4, 1}, []int{4, 0, 7})
	ok := func(value int, names ...string) impl.Reply { return impl.Reply{Value: value, Names: names} }
	code := func(code int) impl.Reply { return impl.Reply{Code: code} }
	same := func(m *impl.Image) {}
	for _, c := range []struct {
		q      impl.Req
		reply  impl.Reply
		change func(m *impl.Image)
	}{
		{impl.Req{Kind: 1, G: 0}, ok(0), same},
		{impl.Req{Kind: 1, G: 1}, ok(100), same},
		{impl.Req{Kind: 1, G: 2}, ok(102), same},
		{impl.Req{Kind: 1, G: 3}, ok(0), same},
		{impl.Req{Kind: 1, G: 4}, code(impl.ErrRange), same},
		{impl.Req{Kind: 2, G: 1, Value: 9}, ok(0), func(m *impl.Image) { m.Data[0] = 9 }},
		{impl.Req{Kind: 2, G: 2, Value: 9}, ok(0), func(m *impl.Image) { m.Table[2], m.Refs[2], m.Refs[1], m.Data[1] = 3, 1, 1, 9 }},
		{impl.Req{Kind: 2, G: 1, Value: -9}, code(impl.ErrRange), same},
		{impl.Req{Kind: 3, G: 1}, ok(0), func(m *impl.Image) { m.Table[1], m.Refs[0], m.Data[0] = 1, 0, 0 }},
		{impl.Req{Kind: 3, G: -1}, code(impl.ErrRange), same},
		{impl.Req{Kind: 4, G: 1}, ok(0), func(m *impl.Image) { m.Table, m.Refs[0], m.Data[0], m.Refs[2] = []int{0}, 0, 0, 1 }},
		{impl.Req{Kind: 4, G: 5}, ok(0), func(m *impl.Image) { m.Table = append(m.Table, 0) }},
		{impl.Req{Kind: 4, G: 13}, code(impl.ErrRange), same},
		{impl.Req{Kind: 5, Name: "b"}, ok(0), func(m *impl.Image) {
			m.Snaps = append(m.Snaps, impl.Snap{Name: "b", Table: []int{0, 2, 4, 1}})
			m.Refs[0], m.Refs[2] = 2, 3
		}},
		{impl.Req{Kind: 5, Name: "a"}, code(impl.ErrTwice), same},
		{impl.Req{Kind: 5, Name: "B"}, code(impl.ErrName), same},
		{impl.Req{Kind: 5}, code(impl.ErrName), same},
		{impl.Req{Kind: 6, Name: "a"}, ok(0), func(m *impl.Image) { m.Snaps, m.Refs[2], m.Refs[5], m.Data[5] = nil, 1, 0, 0 }},
		{impl.Req{Kind: 6, Name: "b"}, code(impl.ErrNone), same},
		{impl.Req{Kind: 6}, code(impl.ErrNone), same},
		{impl.Req{Kind: 7, Name: "a"}, ok(0), func(m *impl.Image) { m.Table, m.Refs[0], m.Data[0], m.Refs[5] = []int{4, 0, 7}, 0, 0, 2 }},
		{impl.Req{Kind: 7, Name: "A"}, code(impl.ErrNone), same},
		{impl.Req{Kind: 8}, ok(4, "a"), same},
	} {
		got, r, code := impl.ReqDo(m, c.q)
		wantImage(t, named(c.q), got, code, imageLike(m, c.change), impl.OK)
		if !sameReply(r, c.reply) {
			t.Errorf("%s: reply %v, not %v", named(c.q), r, c.reply)
		}
	}
}

// What is answered is what the call of chapter 11 answers, and that is as reckoned; with a code the image is as it was, and there is no value and no name.
func TestP14RequestsDoWhatTheCallsDo(t *testing.T) {
	snaps, met := map[int]int{}, map[int]map[int]int{}
	for i, m := range exampleImages() {
		snaps[len(m.Snaps)]++
		where := "image " + strconv.Itoa(i)
		for _, q := range reqsFor(m) {
			got, r := wantDone(t, where, m, q)
			called, reply := chapterEleven(m, q)
			if !sameImage(got, called) || !sameReply(r, reply) {
				t.Error(where, "is not what the call answers:", named(q), r, reply)
			}
			if !impl.ImageOK(got) || !rightImage(got) {
				t.Error(where, "is not right any more:", named(q))
			}
			if r.Code != impl.OK && (!sameImage(got, m) || r.Value != 0 || len(r.Names) != 0) {
				t.Error(where, "is changed, or told, with a code:", named(q), r)
			}
			if met[q.Kind] == nil {
				met[q.Kind] = map[int]int{}
			}
			met[q.Kind][r.Code]++
		}
		if t.Failed() {
			return
		}
	}
	if len(snaps) != 4 {
		t.Error("not all numbers of snapshots:", snaps)
	}
	wantKindsMet(t, met)
}

// wantKindsMet asks for each code that a kind's reply may have, and for no other.
func wantKindsMet(t *testing.T, met map[int]map[int]int) {
	t.Helper()
	for kind, codes := range map[int][]int{
		1: {impl.OK, impl.ErrRange},
		2: {impl.OK, impl.ErrRange, impl.ErrFull},
		3: {impl.OK, impl.ErrRange},
		4: {impl.OK, impl.ErrRange},
		5: {impl.OK, impl.ErrName, impl.ErrTwice, impl.ErrMany},
		6: {impl.OK, impl.ErrNone},
		7: {impl.OK, impl.ErrNone},
		8: {impl.OK},
	} {
		for _, code := range codes {
			if met[kind][code] == 0 {
				t.Error("kind", kind, "never had code", code)
			}
		}
		if len(met[kind]) != len(codes) {
			t.Error("kind", kind, "had other codes:", met[kind])
		}
	}
}

// A read and a list change nothing, whatever they answer.
func TestP14ReadsAndListsChangeNothing(t *testing.T) {
	for _, m := range storeImages() {
		shown := shownBy(m, m.Table)
		for g, want := range shown {
			got, r, code := impl.ReqDo(m, impl.Req{Kind: impl.RqRead, G: g})
			wantImage(t, "read", got, code, m, impl.OK)
			if !sameReply(r, impl.Reply{Value: want}) {
				t.Error("read", g, "is", r, "not", want)
			}
		}
		got, r, code := impl.ReqDo(m, impl.Req{Kind: impl.RqList})
		wantImage(t, "list", got, code, m, impl.OK)
		if !sameReply(r, impl.Reply{Value: len(shown), Names: namesBy(m)}) {
			t.Error("list is", r, "not", len(shown), namesBy(m))
		}
	}
}

func TestP14ImagesOfTheLeastAndTheGreatestSize(t *testing.T) {
	none, most := imageOf(nil), imageOf(evenTable(12, 0))
	wantDone(t, "no clusters", none, impl.Req{Kind: 8})
	wantDone(t, "no clusters", none, impl.Req{Kind: 1})
	wantDone(t, "no clusters", none, impl.Req{Kind: 2})
	wantDone(t, "no clusters", none, impl.Req{Kind: 3})
	got, _ := wantDone(t, "no clusters", none, impl.Req{Kind: 4, G: 12})
	wantImage(t, "drawn out", got, impl.OK, most, impl.OK)
	got, _ = wantDone(t, "twelve clusters", most, impl.Req{Kind: 4})
	wantImage(t, "cut off", got, impl.OK, none, impl.OK)
	for _, q := range []impl.Req{{Kind: 1, G: 11}, {Kind: 2, G: 11, Value: 5}, {Kind: 3, G: 11}} {
		if _, r := wantDone(t, "twelve clusters", most, q); r.Code != impl.OK {
			t.Error("the last cluster is there:", r)
		}
		q.G = 12
		if _, r := wantDone(t, "twelve clusters", most, q); r.Code != impl.ErrRange {
			t.Error("there is none behind it:", r)
		}
	}
}

func TestP14FullImages(t *testing.T) {
	m := usedUpBySnaps()
	// The last of its clusters is its own.
	for g := range 5 {
		got, r, code := impl.ReqDo(m, impl.Req{Kind: impl.RqWrite, G: g, Value: 7})
		wantImage(t, "full", got, code, m, impl.OK)
		if !sameReply(r, impl.Reply{Code: impl.ErrFull}) {
			t.Error("it is full:", g, r)
		}
	}
	for g := range 12 {
		got, r, code := impl.ReqDo(usedUp(), impl.Req{Kind: impl.RqWrite, G: g, Value: 7})
		wantImage(t, "in place", got, code, imageLike(usedUp(), func(m *impl.Image) { m.Data[g] = 7 }), impl.OK)
		if !sameReply(r, impl.Reply{}) {
			t.Error("what is its own is written in place:", g, r)
		}
	}
}

// Images that are not right, requests that are not right, and both at once: nothing is answered at all.
func TestP14WrongImagesAndRequests(t *testing.T) {
	few := []impl.Req{{Kind: 1}, {Kind: 1, G: -1}, {Kind: 2, G: 1, Value: 7}, {Kind: 3, G: 99}, {Kind: 4, G: 3}, {Kind: 5, Name: "new"}, {Kind: 5, Name: "A"}, {Kind: 6, Name: "a"}, {Kind: 7, Name: "none"}, {Kind: 8}}
	for _, w := range wrongImages() {
		for _, q := range few {
			wantNotDone(t, w.name, w.image, q)
		}
	}
	for _, m := range fewImages() {
		for _, q := range wrongReqs() {
			wantNotDone(t, "a right image", m, q)
		}
	}
	for _, m := range append(fewWrongImages(), impl.Image{}) {
		for _, q := range wrongReqs() {
			wantNotDone(t, "nothing is right", m, q)
		}
	}
}

// Long walks by requests alone: all is as reckoned, and each request that can be told is read back from its text and does the same.
func TestP14Walks(t *testing.T) {
	r := rand.New(rand.NewSource(140))
	met := map[int]map[int]int{}
	for kind := 1; kind <= 8; kind++ {
		met[kind] = map[int]int{}
	}
	for _, m := range exampleImages() {
		for range 120 {
			q := anyReq(r)
			next, reply := wantDone(t, "walk", m, q)
			met[q.Kind][reply.Code]++
			if text, code := impl.ReqText(q); code == impl.OK {
				back, _ := impl.ReadReq(text)
				again, sameAgain := wantDone(t, "told and read back", m, back)
				if !sameImage(again, next) || !sameReply(sameAgain, reply) {
					t.Error("not the same request:", text)
				}
			}
			if t.Failed() {
				return
			}
			m = next
		}
	}
	wantKindsMet(t, met)
}

func TestP14SnapshotsOverAWholeLife(t *testing.T) {
	m := imageOf(evenTable(2, 0))
	var names []string
	for i, name := range []string{"z", "abcdef", "m"} {
		m, _ = wantDone(t, "write", m, impl.Req{Kind: impl.RqWrite, G: 1, Value: 10 + i})
		m, _ = wantDone(t, "create", m, impl.Req{Kind: impl.RqCreate, Name: name})
		names = append(names, name)
		if _, r := wantDone(t, "list", m, impl.Req{Kind: impl.RqList}); !slices.Equal(r.Names, names) || r.Value != 2 {
			t.Error("list", r)
		}
	}
	if _, r := wantDone(t, "a fourth one", m, impl.Req{Kind: impl.RqCreate, Name: "n"}); r.Code != impl.ErrMany {
		t.Error("a fourth one", r)
	}
	m, _ = wantDone(t, "delete", m, impl.Req{Kind: impl.RqDelete, Name: "abcdef"})
	m, _ = wantDone(t, "revert", m, impl.Req{Kind: impl.RqRevert, Name: "z"})
	if _, r := wantDone(t, "read", m, impl.Req{Kind: impl.RqRead, G: 1}); !sameReply(r, impl.Reply{Value: 10}) {
		t.Error("read", r)
	}
	if _, r := wantDone(t, "list", m, impl.Req{Kind: impl.RqList}); !sameReply(r, impl.Reply{Value: 2, Names: []string{"z", "m"}}) {
		t.Error("list", r)
	}
}
