package tests

import (
	"slices"
	"strconv"
	"testing"

	"loop.example/g00456/impl"
)

// Promise 1, of the calls of chapter 12. Those on a disk stand among all calls on one (allCalls), those on an image among all on images (imageCalls); here are their arguments, and the others.

// imageDisk has an image that is sure; host 1 has another one that is not, host 2 has nothing of it, host 3 a broken table.
func imageDisk() impl.Disk {
	d := holding(mixedDisk(), updatesBy(sharing()))
	d.Pending = []impl.Io{{Host: 2, At: 41, Data: "elsewhere"}, {Host: 3, At: 11, Data: "broken"}}
	for _, u := range updatesBy(usedUpBySnaps()) {
		d.Pending = append(d.Pending, impl.Io{Host: 1, At: u.At, Data: u.Data})
	}
	return d
}

// storeCalls are the calls of chapter 12 on a disk.
func storeCalls() []diskCall {
	var out []diskCall
	for _, host := range anyHosts() {
		out = append(out, diskCall{"ReadImage", func(d impl.Disk) (a answer) { a.image, a.code = impl.ReadImage(d, host); return a }})
		for _, size := range []int{0, 1, 7, 12, -1, 13, least, greatest} {
			out = append(out, diskCall{"Format", func(d impl.Disk) (a answer) { a.disk, a.code = impl.Format(d, host, size); return a }})
		}
	}
	return out
}

// storeImageCalls are its calls on an image, which stands as the first and as the second one, and against itself.
func storeImageCalls() []imageCall {
	out := []imageCall{
		{"ImageUpdates", func(m impl.Image) (a imageAnswer) { a.updates, a.code = impl.ImageUpdates(m); return a }},
		{"DiffUpdates", func(m impl.Image) (a imageAnswer) { a.updates, a.code = impl.DiffUpdates(m, m); return a }},
	}
	for _, other := range []impl.Image{sharing(), usedUp(), imageOf(nil), {}} {
		out = append(out,
			imageCall{"DiffUpdates", func(m impl.Image) (a imageAnswer) { a.updates, a.code = impl.DiffUpdates(m, other); return a }},
			imageCall{"DiffUpdates", func(m impl.Image) (a imageAnswer) { a.updates, a.code = impl.DiffUpdates(other, m); return a }})
	}
	return out
}

func TestP1StoresMeetEveryCode(t *testing.T) {
	met := map[string]map[int]int{"ReadImage": {}, "Format": {}}
	everyCall(t, func(where string, d impl.Disk, c diskCall) {
		if codes, ok := met[c.name]; ok {
			codes[c.run(d).code]++
		}
	})
	for name, want := range map[string][]int{
		"ReadImage": {impl.OK, impl.ErrBad, impl.ErrRange, impl.ErrBroken},
		"Format":    {impl.OK, impl.ErrBad, impl.ErrRange, impl.ErrFull},
	} {
		for _, code := range want {
			if met[name][code] == 0 {
				t.Error(name, "never answered", code)
			}
		}
		if len(met[name]) != len(want) {
			t.Error(name, "answered other codes:", met[name])
		}
	}
}

func TestP1DifferencesLeaveBothImagesAsTheyAre(t *testing.T) {
	images := append([]impl.Image{sharing(), usedUp(), usedUpBySnaps(), imageOf(nil), imageOf([]int{0, 25}, nil)}, fewWrongImages()...)
	for _, a := range images {
		for _, b := range images {
			first, second := roomyImage(a), roomyImage(b)
			got, code := impl.DiffUpdates(first, second)
			want := slices.Clone(got)
			if !untouchedImage(first, a) || !untouchedImage(second, b) {
				t.Fatal("an argument was changed, or what stands behind its end")
			}
			scribbleImage(first)
			scribbleImage(second)
			if !slices.Equal(got, want) || code != impl.OK && len(got) != 0 {
				t.Fatal("writing into the arguments changed the answer, or it is not zero with a code:", code)
			}
		}
	}
}

func TestP1ReadImagesShareNoMemoryWithin(t *testing.T) {
	read := 0
	for _, named := range rightDisks() {
		for host := range 4 {
			if m, code := impl.ReadImage(named.disk, host); code == impl.OK {
				wantApart(t, named.name, m)
				read++
			}
		}
	}
	for _, m := range storeImages() {
		got, code := impl.ReadImage(diskOfImage(m), 0)
		wantOK(t, "ReadImage", code)
		wantApart(t, "ReadImage", got)
	}
	if read < 6 {
		t.Error("few images on the disks:", read)
	}
}

// Between two alike calls stands another one.
func TestP1PackedNamesAreAlikeForAlikeTexts(t *testing.T) {
	for _, text := range slices.Concat(anySnapNames(), longNames(), anyTexts()) {
		n, code := impl.PackName(text)
		impl.PackName("other")
		if n2, code2 := impl.PackName(text); n2 != n || code2 != code || code != impl.OK && n != 0 {
			t.Error("another answer to alike arguments, or not zero with a code: text of "+strconv.Itoa(len(text)), n, code, n2, code2)
		}
	}
}

// An image that is read from the disk of one that had nil lists, and of one that had empty ones, is the same.
func TestP1StoresHoldNilAndEmptyForTheSame(t *testing.T) {
	none := impl.Image{Refs: make([]int, 24), Data: make([]int, 24)}
	empty := impl.Image{Refs: make([]int, 24), Table: []int{}, Snaps: []impl.Snap{}, Data: make([]int, 24)}
	for _, c := range storeImageCalls() {
		if !sameImageAnswer(c.run(none), c.run(empty)) {
			t.Error("nil and an empty list are told apart:", c.name)
		}
	}
	for _, pair := range [][2]impl.Image{{none, empty}, {empty, none}} {
		if list, code := impl.DiffUpdates(pair[0], pair[1]); len(list) != 0 || code != impl.OK {
			t.Error("nil and an empty list are told apart:", list, code)
		}
	}
}
