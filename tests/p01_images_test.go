package tests

import (
	"slices"
	"strconv"
	"strings"
	"testing"

	"loop.example/g00456/impl"
)

// Promise 1, of the calls of chapter 11.

var guardSnap = impl.Snap{Name: guard}

// roomyImage has guards behind the ends of all its lists.
func roomyImage(m impl.Image) impl.Image {
	m.Refs, m.Table, m.Data, m.Snaps = roomyInts(m.Refs), roomyInts(m.Table), roomyInts(m.Data), guarded(m.Snaps, guardSnap)
	for i, s := range m.Snaps {
		m.Snaps[i].Table = roomyInts(s.Table)
	}
	return m
}

// untouchedImage tells whether the roomy image m is still like was, and its guards stand.
func untouchedImage(m, was impl.Image) bool {
	if !untouchedInts(m.Refs, was.Refs) || !untouchedInts(m.Table, was.Table) || !untouchedInts(m.Data, was.Data) || len(m.Snaps) != len(was.Snaps) {
		return false
	}
	for i, s := range m.Snaps {
		if s.Name != was.Snaps[i].Name || !untouchedInts(s.Table, was.Snaps[i].Table) {
			return false
		}
	}
	return !slices.ContainsFunc(m.Snaps[len(m.Snaps):len(m.Snaps)+3], func(s impl.Snap) bool { return s.Name != guard || s.Table != nil })
}

// intListsOf are all lists of numbers that an image has.
func intListsOf(m impl.Image) [][]int {
	return append([][]int{m.Refs, m.Data}, tablesIn(m)...)
}

// scribbleImage writes over all of its memory, also over what stands behind the ends of its lists.
func scribbleImage(m impl.Image) {
	for _, list := range intListsOf(m) {
		scribbleInts(list)
	}
	fillUp(m.Snaps, impl.Snap{Name: "scribbled", Table: []int{-9}})
}

// imageAnswer is what any of them answers; what a call has not stays zero.
type imageAnswer struct {
	image   impl.Image
	names   []string
	updates []impl.Update
	list    []int
	reply   impl.Reply
	guest   impl.Guest
	number  int
	code    int
}

func sameImageAnswer(a, b imageAnswer) bool {
	return sameImage(a.image, b.image) && slices.Equal(a.names, b.names) && slices.Equal(a.updates, b.updates) && slices.Equal(a.list, b.list) && sameReply(a.reply, b.reply) && alikeGuests(a.guest, b.guest) && a.number == b.number && a.code == b.code
}

func cloneImageAnswer(a imageAnswer) imageAnswer {
	a.image, a.names, a.updates, a.list = cloneImage(a.image), slices.Clone(a.names), slices.Clone(a.updates), slices.Clone(a.list)
	a.reply.Names, a.guest = slices.Clone(a.reply.Names), cloneGuest(a.guest)
	return a
}

func scribbleImageAnswer(a imageAnswer) {
	scribbleImage(a.image)
	fillUp(a.names, "scribbled")
	fillUp(a.updates, impl.Update{At: -9, Data: "scribbled"})
	scribbleInts(a.list)
	fillUp(a.reply.Names, "scribbled")
	scribbleGuest(a.guest)
}

type imageCall struct {
	name string
	run  func(m impl.Image) imageAnswer
}

// imageCalls are the calls on images, those of the store, of check and repair, of requests and of guests among them, with arguments that are right and that are none.
func imageCalls() []imageCall {
	out := []imageCall{
		{"ImageOK", func(m impl.Image) imageAnswer { return imageAnswer{number: numberOf(impl.ImageOK(m))} }},
		{"SnapNames", func(m impl.Image) (a imageAnswer) { a.names, a.code = impl.SnapNames(m); return a }},
		{"GuestOf", func(m impl.Image) (a imageAnswer) { a.guest, a.code = impl.GuestOf(m); return a }},
	}
	for _, n := range []int{0, 1, 2, 5, 11, 12, -1, 13, least, greatest} {
		out = append(out,
			imageCall{"ReadCluster", func(m impl.Image) (a imageAnswer) { a.number, a.code = impl.ReadCluster(m, n); return a }},
			imageCall{"ZeroCluster", func(m impl.Image) (a imageAnswer) { a.image, a.code = impl.ZeroCluster(m, n); return a }},
			imageCall{"ResizeImage", func(m impl.Image) (a imageAnswer) { a.image, a.code = impl.ResizeImage(m, n); return a }})
		for _, value := range []int{0, mostNumber, -1, greatest} {
			out = append(out, imageCall{"WriteCluster", func(m impl.Image) (a imageAnswer) { a.image, a.code = impl.WriteCluster(m, n, value); return a }})
		}
	}
	for _, name := range []string{"a", "b", "c", "z", "zzzzzz", "new", "", "A", "sevenab", strings.Repeat("a", impl.MaxText), strings.Repeat("a", impl.MaxText+1)} {
		for _, call := range snapCalls() {
			out = append(out, imageCall{call.name, func(m impl.Image) (a imageAnswer) { a.image, a.code = call.run(m, name); return a }})
		}
	}
	return slices.Concat(out, storeImageCalls(), checkCalls(), reqCalls())
}

// fewWrongImages are one of each sort.
func fewWrongImages() []impl.Image {
	var out []impl.Image
	seen := map[string]int{}
	for _, w := range wrongImages() {
		if seen[w.name]++; seen[w.name] == 1 {
			out = append(out, w.image)
		}
	}
	return out
}

func everyImageCall(f func(m impl.Image, c imageCall)) {
	calls := imageCalls()
	for _, m := range slices.Concat(exampleImages(), fewWrongImages(), damagedImages()) {
		for _, c := range calls {
			f(m, c)
		}
	}
}

// imagesBusy is what may be called between two alike calls.
func imagesBusy() {
	m, _ := impl.NewImage(7)
	m, _ = impl.WriteCluster(m, 3, 33)
	m, _ = impl.SnapCreate(m, "busy")
	m, _ = impl.WriteCluster(m, 3, 34)
	m, _ = impl.ZeroCluster(m, 2)
	impl.ResizeImage(m, 12)
	impl.SnapRevert(m, "busy")
	impl.SnapDelete(m, "busy")
	impl.ImageOK(impl.Image{Table: []int{2, 2}})
	impl.WriteCluster(m, 9, 9)
	impl.ImageUpdates(m)
	impl.DiffUpdates(m, impl.Image{})
	m.Refs[5], m.Data[9] = 15, 99
	impl.WrongRefs(m)
	impl.Leaks(m)
	impl.Repair(m)
	impl.CountRefs(impl.Image{})
	requestsBusy()
	guestsBusy()
}

func TestP1ImagesLeaveArgumentsAsTheyAre(t *testing.T) {
	everyImageCall(func(m impl.Image, c imageCall) {
		given := roomyImage(m)
		got := c.run(given)
		if !untouchedImage(given, m) {
			t.Fatal("the argument was changed, or what stands behind its end:", c.name)
		}
		want := cloneImageAnswer(got)
		scribbleImage(given)
		if !sameImageAnswer(got, want) {
			t.Fatal("writing into the argument changed the answer:", c.name)
		}
		given = roomyImage(m)
		scribbleImageAnswer(c.run(given))
		if !untouchedImage(given, m) {
			t.Fatal("writing into the answer changed the argument:", c.name)
		}
	})
}

func TestP1ImagesHaveAlikeAnswersInNewMemory(t *testing.T) {
	everyImageCall(func(m impl.Image, c imageCall) {
		first := c.run(m)
		imagesBusy()
		second := c.run(cloneImage(m))
		want := cloneImageAnswer(second)
		if !sameImageAnswer(first, second) {
			t.Fatal("another answer to alike arguments:", c.name)
		}
		scribbleImageAnswer(first)
		if !sameImageAnswer(second, want) || !sameImageAnswer(c.run(m), want) {
			t.Fatal("two answers share memory:", c.name)
		}
	})
}

// wantApart writes over each list of an image in its turn, and asks that none of the others is changed by it.
func wantApart(t *testing.T, name string, m impl.Image) {
	t.Helper()
	lists := intListsOf(m)
	for i := range lists {
		was := make([][]int, len(lists))
		for k, list := range lists {
			was[k] = slices.Clone(list)
		}
		scribbleInts(lists[i])
		for k, list := range lists {
			if k != i && !slices.Equal(list, was[k]) {
				t.Fatal("two lists of one answer share memory:", name, i, k)
			}
		}
		copy(lists[i], was[i])
	}
}

func TestP1ImagesShareNoMemoryWithin(t *testing.T) {
	everyImageCall(func(m impl.Image, c imageCall) { wantApart(t, c.name, c.run(m).image) })
	for size := range 13 {
		m, _ := impl.NewImage(size)
		wantApart(t, "NewImage", m)
	}
}

func TestP1NewImagesAreNewMemory(t *testing.T) {
	for size := range 13 {
		first, _ := impl.NewImage(size)
		imagesBusy()
		second, code := impl.NewImage(size)
		if !sameImage(first, second) || code != impl.OK {
			t.Error("another answer to alike arguments:", size)
		}
		scribbleImage(first)
		third, _ := impl.NewImage(size)
		if want := imageOf(evenTable(size, 0)); !sameImage(second, want) || !sameImage(third, want) {
			t.Error("two answers share memory:", size)
		}
	}
}

// An image of no clusters without snapshots has two empty lists, snapshots may have one.
func TestP1ImagesHoldNilAndEmptyForTheSame(t *testing.T) {
	for _, tables := range [][][]int{{nil}, {nil, nil}, {{2}, nil, {2, 3}}, {nil, {25}, nil, nil}} {
		m := imageOf(tables[0], tables[1:]...)
		none, empty := cloneImage(m), cloneImage(m)
		if len(m.Snaps) == 0 {
			none.Snaps, empty.Snaps = nil, []impl.Snap{}
		}
		if len(m.Table) == 0 {
			none.Table, empty.Table = nil, []int{}
		}
		for i, s := range m.Snaps {
			if len(s.Table) == 0 {
				none.Snaps[i].Table, empty.Snaps[i].Table = nil, []int{}
			}
		}
		for _, c := range imageCalls() {
			if !sameImageAnswer(c.run(none), c.run(empty)) {
				t.Error("nil and an empty list are told apart:", c.name, strconv.Itoa(len(tables)))
			}
		}
	}
}

// With ErrBad all else is zero; with every other code the image is as it was, and there is nothing else.
func TestP1ImagesWithACode(t *testing.T) {
	met := map[string]map[int]int{}
	everyImageCall(func(m impl.Image, c imageCall) {
		a := c.run(m)
		if met[c.name] == nil {
			met[c.name] = map[int]int{}
		}
		met[c.name][a.code]++
		want := imageAnswer{code: a.code}
		if a.code != impl.ErrBad && c.name != "ReadCluster" {
			want.image = m
		}
		if a.code != impl.OK && !sameImageAnswer(a, want) {
			t.Fatal("another answer with a code:", c.name, a.code)
		}
	})
	for name, want := range map[string][]int{
		"ReqDo":        {impl.OK, impl.ErrBad},
		"GuestOf":      {impl.OK, impl.ErrBad},
		"CountRefs":    {impl.OK, impl.ErrBad},
		"WrongRefs":    {impl.OK, impl.ErrBad},
		"Leaks":        {impl.OK, impl.ErrBad},
		"Repair":       {impl.OK, impl.ErrBad},
		"ImageUpdates": {impl.OK, impl.ErrBad},
		"DiffUpdates":  {impl.OK, impl.ErrBad},
		"ImageOK":      {impl.OK},
		"SnapNames":    {impl.OK, impl.ErrBad},
		"ReadCluster":  {impl.OK, impl.ErrBad, impl.ErrRange},
		"WriteCluster": {impl.OK, impl.ErrBad, impl.ErrRange, impl.ErrFull},
		"ZeroCluster":  {impl.OK, impl.ErrBad, impl.ErrRange},
		"ResizeImage":  {impl.OK, impl.ErrBad, impl.ErrRange},
		"SnapCreate":   {impl.OK, impl.ErrBad, impl.ErrLong, impl.ErrName, impl.ErrTwice, impl.ErrMany},
		"SnapDelete":   {impl.OK, impl.ErrBad, impl.ErrLong, impl.ErrNone},
		"SnapRevert":   {impl.OK, impl.ErrBad, impl.ErrLong, impl.ErrNone},
	} {
		for _, code := range want {
			if met[name][code] == 0 {
				t.Error(name, "never answered", code)
			}
		}
		if len(met[name]) != len(want) {
			t.Error(name, "answered other codes:", met[name])
		}
	}
}
