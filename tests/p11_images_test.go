package tests

import (
	"slices"
	"strconv"
	"testing"

	"loop.example/g00456/impl"
)

// Promise 11, of the image itself; p11_reckoning_test.go says what it is held against.

func anyValues() []int {
	return []int{0, 1, 7, 255, 256, 65536, mostNumber - 1, mostNumber}
}

func noValues() []int {
	return []int{-1, mostNumber + 1, -2, mostNumber + 2, 1 << 32, 1<<32 + 1, least, least + 1, greatest}
}

func TestP11WhichImagesAreRight(t *testing.T) {
	if impl.MaxSnaps != 3 {
		t.Error("MaxSnaps", impl.MaxSnaps)
	}
	for _, m := range exampleImages() {
		if !impl.ImageOK(m) {
			t.Error("it is right:", m)
		}
	}
	for _, w := range wrongImages() {
		if impl.ImageOK(w.image) {
			t.Error("it is not right:", w.name)
		}
	}
}

// Right images with one number changed: what is right still is reckoned.
func TestP11ImagesWithOneNumberChanged(t *testing.T) {
	met := map[bool]int{}
	for _, m := range exampleImages() {
		for _, by := range []int{-2, -1, 1, 2, 24} {
			for _, list := range []func(m impl.Image) []int{
				func(m impl.Image) []int { return m.Refs },
				func(m impl.Image) []int { return m.Data },
				func(m impl.Image) []int { return m.Table },
				func(m impl.Image) []int { return slices.Concat(m.Snaps, []impl.Snap{{}})[0].Table },
			} {
				for i := range list(m) {
					x := imageLike(m, func(m *impl.Image) { list(*m)[i] += by })
					met[rightImage(x)]++
					if impl.ImageOK(x) != rightImage(x) {
						t.Error("right or not:", x)
					}
				}
			}
		}
	}
	if met[true] < 1000 || met[false] < 1000 {
		t.Error("too few of one sort:", met)
	}
}

func TestP11NewImages(t *testing.T) {
	for size := range 13 {
		m, code := impl.NewImage(size)
		wantImage(t, "NewImage "+strconv.Itoa(size), m, code, imageOf(evenTable(size, impl.EnHole)), impl.OK)
		if !impl.ImageOK(m) {
			t.Error("NewImage is not right:", size)
		}
		wantShown(t, "NewImage", m, make([]int, size))
	}
	for _, size := range noSizes() {
		m, code := impl.NewImage(size)
		wantNoImage(t, "NewImage "+strconv.Itoa(size), m, code, impl.ErrRange)
	}
}

func TestP11ClustersAreRead(t *testing.T) {
	for _, m := range exampleImages() {
		wantShown(t, "an example", m, shownBy(m, m.Table))
		for _, g := range noPlaces(m.Table) {
			n, code := impl.ReadCluster(m, g)
			wantNumber(t, "ReadCluster "+strconv.Itoa(g), n, code, 0, impl.ErrRange)
		}
	}
}

func TestP11WritesByHand(t *testing.T) {
	m := imageOf([]int{0, 1, 2, 4, 5}, []int{4, 0, 7}, []int{5, 4})
	for _, c := range []struct {
		name                     string
		g, value                 int
		entry, at, old, oldCount int
	}{
		{"a hole", 0, 9, 3, 1, -1, 0},
		{"a zero", 1, 9, 3, 1, -1, 0},
		{"its own", 2, 9, 2, 0, -1, 0},
		{"its own, 0", 2, 0, 2, 0, -1, 0},
		{"three tables have it", 3, 9, 3, 1, 2, 2},
		{"two tables have it", 4, mostNumber, 3, 1, 3, 1},
		{"two tables have it, and it is the same value", 4, 103, 3, 1, 3, 1},
		{"a hole, 0", 0, 0, 3, 1, -1, 0},
	} {
		want := imageLike(m, func(m *impl.Image) {
			m.Table[c.g], m.Refs[c.at], m.Data[c.at] = c.entry, 1, c.value
			if c.old >= 0 {
				m.Refs[c.old] = c.oldCount
			}
		})
		got, code := impl.WriteCluster(m, c.g, c.value)
		wantImage(t, c.name, got, code, want, impl.OK)
	}
}

// What is written is read; the guest's other clusters show what they did, and each snapshot does.
func TestP11WhatIsWrittenIsRead(t *testing.T) {
	met := map[int]int{}
	for _, m := range exampleImages() {
		for g := range m.Table {
			for _, value := range anyValues() {
				where := "WriteCluster " + strconv.Itoa(g)
				want, wantCode := writeBy(m, g, value)
				got, code := impl.WriteCluster(m, g, value)
				wantImage(t, where, got, code, want, wantCode)
				met[code]++
				if code != impl.OK {
					continue
				}
				shown := shownBy(m, m.Table)
				shown[g] = value
				wantShown(t, where, got, shown)
				wantSnapsKept(t, where, got, m)
				if !rightImage(got) || !impl.ImageOK(got) {
					t.Error(where, "is not right any more:", got)
				}
			}
		}
	}
	if len(met) != 2 || met[impl.OK] == 0 || met[impl.ErrFull] == 0 {
		t.Error("WriteCluster answered other codes:", met)
	}
}

// wantSnapsKept asks that all snapshots show what they did, by the program's own way back to them.
func wantSnapsKept(t *testing.T, where string, m, was impl.Image) {
	t.Helper()
	if !slices.Equal(namesBy(m), namesBy(was)) {
		t.Error(where, "snapshots", namesBy(m), "not", namesBy(was))
	}
	for _, s := range was.Snaps {
		back, code := impl.SnapRevert(m, s.Name)
		wantOK(t, where+": SnapRevert "+s.Name, code)
		wantShown(t, where+": snapshot "+s.Name, back, shownBy(was, s.Table))
	}
}

func TestP11WritesAreOutOfRange(t *testing.T) {
	for _, m := range exampleImages() {
		for _, g := range noPlaces(m.Table) {
			for _, value := range append(noValues(), 0, 5, mostNumber) {
				got, code := impl.WriteCluster(m, g, value)
				wantImage(t, "WriteCluster at "+strconv.Itoa(g), got, code, m, impl.ErrRange)
			}
		}
		// Also into images that have no room, and where there is a cluster to be written in place.
		for g := range m.Table {
			for _, value := range noValues() {
				got, code := impl.WriteCluster(m, g, value)
				wantImage(t, "WriteCluster of "+strconv.Itoa(value), got, code, m, impl.ErrRange)
			}
		}
	}
}

func TestP11FullImages(t *testing.T) {
	for g := range 12 {
		got, code := impl.WriteCluster(usedUp(), g, 9)
		wantImage(t, "in place", got, code, imageLike(usedUp(), func(m *impl.Image) { m.Data[g] = 9 }), impl.OK)
	}
	for g, want := range []int{impl.ErrFull, impl.ErrFull, impl.ErrFull, impl.ErrFull, impl.ErrFull, impl.OK} {
		m := usedUpBySnaps()
		if want == impl.OK {
			m = imageLike(m, func(m *impl.Image) { m.Data[12] = 9 })
		}
		got, code := impl.WriteCluster(usedUpBySnaps(), g, 9)
		wantImage(t, "of a full one, at "+strconv.Itoa(g), got, code, m, want)
	}
}

// An image whose every cluster but one is used: the last write finds it, wherever it is, the next one does not.
func TestP11TheLastClusterIsFound(t *testing.T) {
	for c := range 24 {
		others := slices.DeleteFunc(clustersFrom(0, 24), func(entry int) bool { return entry == 2+c })
		m := imageOf([]int{0, 1, 25 - c/23}, others[:12], others[12:])
		got, code := impl.WriteCluster(m, 1, 9)
		want := imageLike(m, func(m *impl.Image) { m.Table[1], m.Refs[c], m.Data[c] = 2+c, 1, 9 })
		wantImage(t, "the last one", got, code, want, impl.OK)
		for _, g := range []int{0, 2} {
			again, code := impl.WriteCluster(got, g, 8)
			wantImage(t, "one more", again, code, want, impl.ErrFull)
		}
		// What is given up can be taken again.
		got, code = impl.ZeroCluster(got, 1)
		wantOK(t, "ZeroCluster", code)
		got, code = impl.WriteCluster(got, 0, 8)
		want = imageLike(m, func(m *impl.Image) { m.Table[0], m.Table[1], m.Refs[c], m.Data[c] = 2+c, 1, 1, 8 })
		wantImage(t, "one that was given up", got, code, want, impl.OK)
	}
}

func TestP11ZeroesByHand(t *testing.T) {
	m := imageOf([]int{0, 1, 2, 4, 5}, []int{4, 0, 7}, []int{5, 4})
	for g, change := range []func(m *impl.Image){
		func(m *impl.Image) { m.Table[0] = 1 },
		func(m *impl.Image) {},
		func(m *impl.Image) { m.Table[2], m.Refs[0], m.Data[0] = 1, 0, 0 },
		func(m *impl.Image) { m.Table[3], m.Refs[2] = 1, 2 },
		func(m *impl.Image) { m.Table[4], m.Refs[3] = 1, 1 },
	} {
		got, code := impl.ZeroCluster(m, g)
		wantImage(t, "ZeroCluster "+strconv.Itoa(g), got, code, imageLike(m, change), impl.OK)
	}
}

func TestP11ZeroedClusters(t *testing.T) {
	for _, m := range exampleImages() {
		for g := range m.Table {
			where := "ZeroCluster " + strconv.Itoa(g)
			want, _ := zeroBy(m, g)
			got, code := impl.ZeroCluster(m, g)
			wantImage(t, where, got, code, want, impl.OK)
			wantEntry(t, where, got.Table, g, impl.EnZero, 0, impl.OK)
			shown := shownBy(m, m.Table)
			shown[g] = 0
			wantShown(t, where, got, shown)
			wantSnapsKept(t, where, got, m)
			if !rightImage(got) || !impl.ImageOK(got) {
				t.Error(where, "is not right any more:", got)
			}
			again, code := impl.ZeroCluster(got, g)
			wantImage(t, where+" again", again, code, got, impl.OK)
		}
		for _, g := range noPlaces(m.Table) {
			got, code := impl.ZeroCluster(m, g)
			wantImage(t, "ZeroCluster at "+strconv.Itoa(g), got, code, m, impl.ErrRange)
		}
	}
}

func TestP11ResizesByHand(t *testing.T) {
	m := imageOf([]int{0, 1, 2, 4, 5}, []int{4, 0, 7}, []int{5, 4})
	for size, change := range map[int]func(m *impl.Image){
		12: func(m *impl.Image) { m.Table = append(m.Table, 0, 0, 0, 0, 0, 0, 0) },
		6:  func(m *impl.Image) { m.Table = append(m.Table, 0) },
		5:  func(m *impl.Image) {},
		4:  func(m *impl.Image) { m.Table, m.Refs[3] = m.Table[:4], 1 },
		3:  func(m *impl.Image) { m.Table, m.Refs[3], m.Refs[2] = m.Table[:3], 1, 2 },
		2:  func(m *impl.Image) { m.Table, m.Refs[3], m.Refs[2], m.Refs[0], m.Data[0] = m.Table[:2], 1, 2, 0, 0 },
		0:  func(m *impl.Image) { m.Table, m.Refs[3], m.Refs[2], m.Refs[0], m.Data[0] = nil, 1, 2, 0, 0 },
	} {
		got, code := impl.ResizeImage(m, size)
		wantImage(t, "ResizeImage "+strconv.Itoa(size), got, code, imageLike(m, change), impl.OK)
	}
}

// What is cut off is gone: made longer again there are holes, which show 0, and what only it had can be taken.
func TestP11ImagesOfOtherSizes(t *testing.T) {
	for _, m := range exampleImages() {
		for size := range 13 {
			where := "ResizeImage " + strconv.Itoa(size)
			want, _ := resizeBy(m, size)
			got, code := impl.ResizeImage(m, size)
			wantImage(t, where, got, code, want, impl.OK)
			shown := slices.Concat(shownBy(m, m.Table), make([]int, 12))
			wantShown(t, where, got, shown[:size])
			wantSnapsKept(t, where, got, m)
			if !rightImage(got) || !impl.ImageOK(got) {
				t.Error(where, "is not right any more:", got)
			}
			long, code := impl.ResizeImage(got, 12)
			wantOK(t, where+", then 12", code)
			wantShown(t, where+", then 12", long, slices.Concat(shown[:size], make([]int, 12-size)))
			for g := min(size, len(m.Table)); g < 12; g++ {
				wantEntry(t, where+", then 12", long.Table, g, impl.EnHole, 0, impl.OK)
			}
			back, code := impl.ResizeImage(long, size)
			wantImage(t, where+", 12, and back", back, code, got, impl.OK)
		}
		for _, size := range noSizes() {
			got, code := impl.ResizeImage(m, size)
			wantImage(t, "ResizeImage "+strconv.Itoa(size), got, code, m, impl.ErrRange)
		}
	}
}

func TestP11WhatIsCutOffMakesRoom(t *testing.T) {
	m, code := impl.ResizeImage(usedUp(), 11)
	wantOK(t, "ResizeImage", code)
	m, code = impl.SnapCreate(m, "new")
	wantOK(t, "SnapCreate", code)
	m, code = impl.WriteCluster(m, 0, 9)
	wantOK(t, "WriteCluster", code)
	if m.Table[0] != 2+11 || m.Data[11] != 9 || m.Refs[11] != 1 || m.Refs[0] != 1 || m.Data[0] != 100 {
		t.Error("the cluster that was cut off was not taken:", m)
	}
	got, code := impl.WriteCluster(m, 1, 9)
	wantImage(t, "one more", got, code, m, impl.ErrFull)
}

// All calls, also with arguments that are none: what is wrong with the image is told first.
func TestP11ImagesThatAreNotRight(t *testing.T) {
	for _, w := range wrongImages() {
		for _, g := range []int{0, 1, 12, -1, least, greatest} {
			n, code := impl.ReadCluster(w.image, g)
			wantNumber(t, w.name+": ReadCluster", n, code, 0, impl.ErrBad)
			for _, value := range []int{0, 5, -1, greatest} {
				m, code := impl.WriteCluster(w.image, g, value)
				wantNoImage(t, w.name+": WriteCluster", m, code, impl.ErrBad)
			}
			m, code := impl.ZeroCluster(w.image, g)
			wantNoImage(t, w.name+": ZeroCluster", m, code, impl.ErrBad)
			m, code = impl.ResizeImage(w.image, g)
			wantNoImage(t, w.name+": ResizeImage", m, code, impl.ErrBad)
		}
		for _, name := range []string{"a", "b", "new", "", "One", "sevenab"} {
			for _, call := range snapCalls() {
				m, code := call.run(w.image, name)
				wantNoImage(t, w.name+": "+call.name, m, code, impl.ErrBad)
			}
		}
		names, code := impl.SnapNames(w.image)
		if len(names) != 0 || code != impl.ErrBad {
			t.Error(w.name+": SnapNames", len(names), code)
		}
	}
}
