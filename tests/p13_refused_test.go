package tests

import (
	"slices"
	"strconv"
	"strings"
	"testing"

	"loop.example/g00456/impl"
)

// Promise 13, of images that are not right in more than counts and data that no table has: nothing is told of them, and nothing is repaired.

// mendedBy is the right image that m would be, if counts and data that no table has are all that is wrong.
func mendedBy(m impl.Image) (impl.Image, bool) {
	isNumber := func(n int) bool { return n >= 0 && n <= mostNumber }
	if !rightRefs(m.Refs) || len(m.Data) != 24 || slices.ContainsFunc(m.Data, func(n int) bool { return !isNumber(n) }) {
		return impl.Image{}, false
	}
	m = cloneImage(m)
	for c := range 24 {
		if m.Refs[c] = holders(m, c); m.Refs[c] == 0 {
			m.Data[c] = 0
		}
	}
	return m, rightImage(m)
}

// wantCheckedOrNot tells whether it was checked.
func wantCheckedOrNot(t *testing.T, where string, m impl.Image) bool {
	t.Helper()
	was, ok := mendedBy(m)
	if ok {
		wantChecked(t, damaged{where, m, was})
	} else {
		wantUnchecked(t, where, m)
	}
	return ok
}

// beyondRepair are wrong in one way each, of images whose counts are right and of such whose counts are all wrong.
func beyondRepair() []namedImage {
	var out []namedImage
	add := func(name string, change func(m *impl.Image)) {
		uncounted := imageLike(sharing(), func(m *impl.Image) { m.Refs = evenRefs(7) })
		leftOver := imageLike(sharing(), func(m *impl.Image) { m.Data[15] = 9 })
		for _, m := range []impl.Image{sharing(), uncounted, leftOver} {
			out = append(out, namedImage{name, imageLike(m, change)})
		}
	}
	for _, size := range []int{0, 1, 23, 25, 48, 4096, 4097} {
		add(strconv.Itoa(size)+" counts", func(m *impl.Image) { m.Refs = make([]int, size) })
		add(strconv.Itoa(size)+" data", func(m *impl.Image) { m.Data = make([]int, size) })
	}
	add("one count less", func(m *impl.Image) { m.Refs = m.Refs[:23] })
	add("one count more", func(m *impl.Image) { m.Refs = append(m.Refs, 0) })
	add("one data less", func(m *impl.Image) { m.Data = m.Data[:23] })
	add("one data more", func(m *impl.Image) { m.Data = append(m.Data, 0) })
	// Tables have 0, 7 and 23; none has 8 and 22.
	for _, c := range []int{0, 7, 8, 22, 23} {
		for _, n := range []int{-1, 16, 17, -15, 256, 1 << 31, 1 << 32, 1<<32 + 1, least, greatest} {
			add("count "+strconv.Itoa(n)+" of "+strconv.Itoa(c), func(m *impl.Image) { m.Refs[c] = n })
		}
		for _, n := range wrongNumbers() {
			add("data "+strconv.Itoa(n)+" of "+strconv.Itoa(c), func(m *impl.Image) { m.Data[c] = n })
		}
	}
	for _, table := range refusedTables() {
		add("a table of "+strconv.Itoa(len(table)), func(m *impl.Image) { m.Table = table })
		for i := range 3 {
			add("snapshot "+strconv.Itoa(i)+"'s table of "+strconv.Itoa(len(table)), func(m *impl.Image) { m.Snaps[i].Table = table })
		}
	}
	for i := range 3 {
		for _, name := range append(noSnapNames(), strings.Repeat("a", impl.MaxText+1)) {
			add("no name of snapshot "+strconv.Itoa(i), func(m *impl.Image) { m.Snaps[i].Name = name })
		}
		add("a name twice, "+strconv.Itoa(i), func(m *impl.Image) { m.Snaps[i].Name = m.Snaps[(i+1)%3].Name })
	}
	add("four snapshots", func(m *impl.Image) { m.Snaps = append(m.Snaps, impl.Snap{Name: "d"}) })
	add("4097 snapshots", func(m *impl.Image) { m.Snaps = append(m.Snaps, make([]impl.Snap, 4094)...) })
	return out
}

func refusedTables() [][]int {
	out := [][]int{
		evenTable(13, 0), evenTable(13, 1), clustersFrom(0, 13), evenTable(4096, 0), evenTable(4097, 0),
		{-1}, {26}, {0, 1, 2, -1}, {26, 0, 1}, {least}, {2, greatest}, {1 << 32}, {0, 1<<32 + 2},
		{2, 2}, {25, 0, 25}, {0, 9, 1, 9}, {9, 9, 9}, append(clustersFrom(0, 11), 2), append(clustersFrom(13, 11), 25, 25),
	}
	for g := 1; g < 12; g++ {
		table := clustersFrom(6, 12)
		table[g] = table[0]
		out = append(out, table)
	}
	return out
}

func TestP13ImagesBeyondRepair(t *testing.T) {
	for _, w := range append(beyondRepair(), wrongSnaps()...) {
		wantUnchecked(t, w.name, w.image)
	}
	wantUnchecked(t, "the empty image", impl.Image{})
	wantUnchecked(t, "counts alone", impl.Image{Refs: evenRefs(0)})
	wantUnchecked(t, "data alone", impl.Image{Data: evenRefs(0)})
}

// A cluster that a table has twice is beyond repair however it is counted, and whichever table that is.
func TestP13ClustersThatATableHasTwice(t *testing.T) {
	for c := range 24 {
		for n := range 16 {
			for i := range 4 {
				tables := slices.Insert([][]int{{0, 1}, {1}, nil}, i, []int{1, 2 + c, 0, 2 + c})
				m := imageLike(imageOf(tables[0], tables[1:]...), func(m *impl.Image) { m.Refs[c] = n })
				wantUnchecked(t, strconv.Itoa(c)+" twice in table "+strconv.Itoa(i), m)
			}
		}
		// Two tables that have it once each are none of that.
		was := imageOf([]int{1, 2 + c}, []int{2 + c, 1})
		wantChecked(t, damage("once in two", was, func(m *impl.Image) { m.Refs[c] = 1 }))
	}
}

func TestP13SeveralFaultsAtOnce(t *testing.T) {
	changes := []func(m *impl.Image){
		func(m *impl.Image) { m.Refs = m.Refs[:23] },
		func(m *impl.Image) { m.Refs = append(m.Refs, -1, 99) },
		func(m *impl.Image) { m.Data = nil },
		func(m *impl.Image) { m.Data = append(m.Data, least) },
		func(m *impl.Image) { m.Table = []int{26, 2, 2} },
		func(m *impl.Image) { m.Table = evenTable(13, 5) },
		func(m *impl.Image) { m.Snaps[0].Table = []int{least, greatest} },
		func(m *impl.Image) { m.Snaps[0].Name = "" },
		func(m *impl.Image) { m.Snaps = append(m.Snaps, m.Snaps...) },
		func(m *impl.Image) { m.Refs = evenRefs(0) },
	}
	for i, first := range changes[:9] {
		for k, second := range changes {
			m := imageLike(sharing(), first)
			second(&m)
			// Other counts, of the right number, mend what was wrong with the counts alone.
			if k == 9 && i < 2 {
				wantChecked(t, damaged{"counts again", m, sharing()})
				continue
			}
			wantUnchecked(t, strconv.Itoa(i)+" and "+strconv.Itoa(k), m)
		}
	}
	wantUnchecked(t, "all of it", impl.Image{Refs: []int{-1}, Table: []int{least, 2, 2}, Snaps: make([]impl.Snap, 4), Data: []int{greatest}})
}

// Images that are wrong in any way that chapter 11 knows: some are checked, the others are not.
func TestP13WrongImages(t *testing.T) {
	met := map[bool]int{}
	for _, w := range wrongImages() {
		met[wantCheckedOrNot(t, w.name, w.image)]++
	}
	if met[true] < 20 || met[false] < 100 {
		t.Error("too few of one sort:", met)
	}
}

// Right images with one number changed: whether they are checked is reckoned.
func TestP13ImagesWithOneNumberChanged(t *testing.T) {
	met := map[bool]int{}
	for _, m := range fewImages() {
		for i, list := range intListsOf(m) {
			for at := range list {
				for _, by := range []int{-16, -15, -2, -1, 1, 2, 12, 15, 16, 24, mostNumber} {
					x := imageLike(m, func(m *impl.Image) { intListsOf(*m)[i][at] += by })
					met[wantCheckedOrNot(t, "list "+strconv.Itoa(i)+" at "+strconv.Itoa(at), x)]++
				}
			}
		}
	}
	if met[true] < 1000 || met[false] < 1000 {
		t.Error("too few of one sort:", met)
	}
}

func TestP13ReckoningIsRight(t *testing.T) {
	for _, m := range exampleImages() {
		if was, ok := mendedBy(m); !ok || !sameImage(was, m) {
			t.Error("a right image is not what it is:", m)
		}
	}
	for _, w := range beyondRepair() {
		if _, ok := mendedBy(w.image); ok {
			t.Error("it is beyond repair:", w.name)
		}
	}
	for _, m := range fewImages() {
		for c := range 24 {
			x := imageLike(m, func(m *impl.Image) { m.Refs[c] = 14 })
			if was, ok := mendedBy(x); !ok || !sameImage(was, m) {
				t.Error("one count is wrong, and nothing else:", c)
			}
		}
	}
}
