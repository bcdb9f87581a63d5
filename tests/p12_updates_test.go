package tests

import (
	"slices"
	"strconv"
	"strings"
	"testing"

	"loop.example/g00456/impl"
)

// Promise 12, of names as numbers, of an image's updates and of those between two images; p12_reckoning_test.go says what it is held against.

func TestP12NamesByHand(t *testing.T) {
	for name, want := range map[string]int{
		"a": 1, "b": 2, "m": 13, "z": 26, "aa": 28, "ab": 29, "ba": 55, "az": 53, "zz": 728, "aaa": 757,
		"abc": 27*27 + 2*27 + 3, "aaaaaa": 14900788, "zzzzz": 14348906, "zzzzzz": 387420488, "azzzzz": 28697813, "zaaaaa": 373623463,
	} {
		n, code := impl.PackName(name)
		wantNumber(t, "PackName "+name, n, code, want, impl.OK)
	}
}

// eachName are all names of up to three letters, and longer ones with each letter in each place.
func eachName() []string {
	out := []string{""}
	for from, size := 0, 0; size < 3; size++ {
		for end := len(out); from < end; from++ {
			for _, letter := range letters[1:] {
				out = append(out, out[from]+string(letter))
			}
		}
	}
	for size := 4; size <= 6; size++ {
		for at := range size {
			for _, letter := range letters[2:] {
				out = append(out, strings.Repeat("a", at)+string(letter)+strings.Repeat("a", size-1-at))
			}
		}
	}
	return out[1:]
}

// No two names have one number, and each number is a record's.
func TestP12NamesHaveNumbersOfTheirOwn(t *testing.T) {
	seen := map[int]string{}
	for _, name := range eachName() {
		n, code := impl.PackName(name)
		wantNumber(t, "PackName "+name, n, code, nameNumber(name), impl.OK)
		if other, twice := seen[n]; twice || n < 1 || n > 387420488 {
			t.Fatal("PackName", name, n, other)
		}
		seen[n] = name
		if back, ok := nameBy(n); back != name || !ok {
			t.Fatal("not the way back:", name, n, back)
		}
	}
	if len(seen) < 18000 {
		t.Error("too few names:", len(seen))
	}
}

func TestP12TextsThatAreNoNames(t *testing.T) {
	for _, text := range append(noSnapNames(), "aaaaaaa", "zzzzzzz", "a0", "_", "ab_", strings.Repeat("a", impl.MaxText), strings.Repeat("\x00", impl.MaxText)) {
		n, code := impl.PackName(text)
		wantNumber(t, "PackName of "+strconv.Itoa(len(text)), n, code, 0, impl.ErrName)
	}
	for _, text := range longNames() {
		n, code := impl.PackName(text)
		wantNumber(t, "PackName of "+strconv.Itoa(len(text)), n, code, 0, impl.ErrLong)
	}
}

func TestP12UpdatesByHand(t *testing.T) {
	m := imageOf([]int{0, 1, 2, 25}, []int{25}, []int{4, 2})
	m.Snaps[0].Name, m.Snaps[1].Name, m.Data[0], m.Data[2], m.Data[23] = "zzzzzz", "a", 0, mostNumber, 258
	want := []impl.Update{
		{At: 9, Data: sealed(1, []int{2, 387420488, 1})},
		{At: 10, Data: sealed(2, []int{0x000102, 0, 0, 0x200000})},
		{At: 11, Data: sealed(3, []int{0, 1, 2, 25})},
		{At: 12, Data: sealed(3, []int{25})},
		{At: 13, Data: sealed(3, []int{4, 2})},
		{At: 15, Data: sealed(4, []int{0})},
		{At: 17, Data: sealed(4, []int{mostNumber})},
		{At: 38, Data: sealed(4, []int{258})},
	}
	got, code := impl.ImageUpdates(m)
	wantUpdates(t, "ImageUpdates", got, code, want, impl.OK)
	if got[7].Data != "\x04\x01\x25\x00\x02\x01\x00\x00" {
		t.Errorf("the last one's bytes: %q", got[7].Data)
	}
	got, code = impl.ImageUpdates(imageOf(nil))
	wantUpdates(t, "nothing", got, code, []impl.Update{{At: 9, Data: sealed(1, []int{0})}, {At: 10, Data: sealed(2, make([]int, 4))}, {At: 11, Data: sealed(3, nil)}}, impl.OK)
}

// Each is an update that a journal takes; they rise, and are as many as tables and counted clusters ask for.
func TestP12UpdatesOfImages(t *testing.T) {
	sizes := map[int]int{}
	for _, m := range storeImages() {
		got, code := impl.ImageUpdates(m)
		wantUpdates(t, "ImageUpdates", got, code, updatesBy(m), impl.OK)
		counted := 24 - len(slices.DeleteFunc(slices.Clone(m.Refs), func(n int) bool { return n > 0 }))
		if len(got) != 3+len(m.Snaps)+counted {
			t.Error("ImageUpdates are", len(got))
		}
		sizes[counted]++
		for i, u := range got {
			if _, code := impl.EncodeUpdate(u); code != impl.OK || i > 0 && got[i-1].At >= u.At {
				t.Error("no right update, or not rising:", u, code)
			}
		}
	}
	if sizes[0] == 0 || sizes[24] == 0 || sizes[1] == 0 || sizes[12] == 0 {
		t.Error("not all sorts of images:", sizes)
	}
}

func TestP12DifferencesByHand(t *testing.T) {
	m := imageOf([]int{0, 1, 2, 4}, []int{4, 0, 7})
	super := func(list ...int) impl.Update { return impl.Update{At: 9, Data: sealed(1, list)} }
	counts := func(first int) impl.Update { return impl.Update{At: 10, Data: sealed(2, []int{first, 0, 0, 0})} }
	table := func(i int, list ...int) impl.Update { return impl.Update{At: 11 + i, Data: sealed(3, list)} }
	data := func(c, n int) impl.Update { return impl.Update{At: 15 + c, Data: sealed(4, []int{n})} }
	for _, c := range []struct {
		name   string
		change func(m *impl.Image)
		want   []impl.Update
	}{
		{"alike", func(m *impl.Image) {}, nil},
		{"one value", func(m *impl.Image) { m.Data[2] = 9 }, []impl.Update{data(2, 9)}},
		{"one value that is 0", func(m *impl.Image) { m.Data[0] = 0 }, []impl.Update{data(0, 0)}},
		{"one name", func(m *impl.Image) { m.Snaps[0].Name = "b" }, []impl.Update{super(1, 2)}},
		{"one letter more", func(m *impl.Image) { m.Snaps[0].Name = "ba" }, []impl.Update{super(1, 55)}},
		{"a hole more", func(m *impl.Image) { m.Table = append(m.Table, 0) }, []impl.Update{table(0, 0, 1, 2, 4, 0)}},
		{"a snapshot's hole more", func(m *impl.Image) { m.Snaps[0].Table = append(m.Snaps[0].Table, 0) }, []impl.Update{table(1, 4, 0, 7, 0)}},
		{"a zero for a hole", func(m *impl.Image) { m.Table[0] = 1 }, []impl.Update{table(0, 1, 1, 2, 4)}},
		{"one count less", func(m *impl.Image) { m.Table[3], m.Refs[2] = 0, 1 }, []impl.Update{counts(0x100101), table(0, 0, 1, 2, 0)}},
		{"one count more", func(m *impl.Image) { m.Table[0], m.Refs[5] = 7, 2 }, []impl.Update{counts(0x200201), table(0, 7, 1, 2, 4)}},
		{"none has it any more", func(m *impl.Image) { m.Table[2], m.Refs[0], m.Data[0] = 0, 0, 0 }, []impl.Update{counts(0x100200), table(0, 0, 1, 0, 4)}},
		{"another cluster", func(m *impl.Image) { m.Table[2], m.Refs[0], m.Data[0], m.Refs[1] = 3, 0, 0, 1 }, []impl.Update{counts(0x100210), table(0, 0, 1, 3, 4), data(1, 0)}},
		{"no snapshot", func(m *impl.Image) { m.Snaps, m.Refs[2], m.Refs[5], m.Data[5] = nil, 1, 0, 0 }, []impl.Update{super(0), counts(0x000101)}},
		{"an empty snapshot behind it", func(m *impl.Image) { m.Snaps = append(m.Snaps, impl.Snap{Name: "z"}) }, []impl.Update{super(2, 1, 26), table(2)}},
		{"an empty snapshot ahead of it", func(m *impl.Image) { m.Snaps = append([]impl.Snap{{Name: "z"}}, m.Snaps...) }, []impl.Update{super(2, 26, 1), table(1), table(2, 4, 0, 7)}},
	} {
		x := imageLike(m, c.change)
		got, code := impl.DiffUpdates(m, x)
		wantUpdates(t, c.name, got, code, c.want, impl.OK)
		wantImageOn(t, c.name, holding(diskOfImage(m), got), x)
	}
}

// All pairs of images, those that are alike among them: what the second one has otherwise, applied to the first one's sectors, is the second one.
func TestP12DifferencesOfAnyTwo(t *testing.T) {
	images := storeImages()
	for i, a := range images {
		was, d := sectorsBy(a), diskOfImage(a)
		for k, b := range images {
			got, code := impl.DiffUpdates(a, b)
			wantUpdates(t, "DiffUpdates", got, code, diffBy(was, sectorsBy(b)), impl.OK)
			if i == k && len(got) != 0 {
				t.Error("an image is not like itself:", got)
			}
			back, code := impl.ReadImage(holding(d, got), (i+k)%4)
			wantImage(t, "applied", back, code, b, impl.OK)
		}
		if t.Failed() {
			return
		}
	}
}

// Nothing in common: no name, no table, no cluster, other counts.
func TestP12ImagesWithNothingInCommon(t *testing.T) {
	a := imageOf([]int{2, 3, 4}, []int{2, 5})
	b := imageOf([]int{10, 11}, []int{12}, []int{25, 10, 11})
	b.Snaps[0].Name, b.Snaps[1].Name = "x", "y"
	got, code := impl.DiffUpdates(a, b)
	wantUpdates(t, "nothing in common", got, code, updatesBy(b), impl.OK)
	got, code = impl.DiffUpdates(b, a)
	wantUpdates(t, "nothing in common", got, code, updatesBy(a), impl.OK)
}

func TestP12UpdatesOfImagesThatAreNotRight(t *testing.T) {
	right := []impl.Image{imageOf(nil), sharing(), usedUp()}
	for _, w := range wrongImages() {
		list, code := impl.ImageUpdates(w.image)
		wantUpdates(t, w.name+": ImageUpdates", list, code, nil, impl.ErrBad)
		for _, m := range right {
			list, code = impl.DiffUpdates(w.image, m)
			wantUpdates(t, w.name+": DiffUpdates, the first", list, code, nil, impl.ErrBad)
			list, code = impl.DiffUpdates(m, w.image)
			wantUpdates(t, w.name+": DiffUpdates, the second", list, code, nil, impl.ErrBad)
		}
		list, code = impl.DiffUpdates(w.image, w.image)
		wantUpdates(t, w.name+": DiffUpdates, both", list, code, nil, impl.ErrBad)
		list, code = impl.DiffUpdates(w.image, impl.Image{})
		wantUpdates(t, w.name+": DiffUpdates, both", list, code, nil, impl.ErrBad)
	}
}
