package tests

import (
	"math/rand"
	"slices"
	"strconv"
	"testing"

	"loop.example/g00456/impl"
)

// Promise 13: what is counted wrong is told, and repaired.
// p11_reckoning_test.go has the images, and changes them without the program; here stands what they are held against when they are damaged.

// damaged is an image with wrong counts, or data that no table has, and the right one that it was.
type damaged struct {
	name       string
	image, was impl.Image
}

func damage(name string, was impl.Image, change func(m *impl.Image)) damaged {
	return damaged{name, imageLike(was, change), was}
}

// wrongBy and leaksBy hold an image's counts against the right one's.
func (d damaged) wrongBy() []int {
	var out []int
	for c, n := range d.was.Refs {
		if d.image.Refs[c] != n {
			out = append(out, c)
		}
	}
	return out
}

func (d damaged) leaksBy() []int {
	return slices.DeleteFunc(d.wrongBy(), func(c int) bool { return d.image.Refs[c] < d.was.Refs[c] })
}

func wantClusters(t *testing.T, where string, got []int, code int, want []int) {
	t.Helper()
	if !slices.Equal(got, want) || code != impl.OK {
		t.Errorf("%s: %v with code %d, not %v", where, got, code, want)
	}
}

// wantChecked asks all four calls, and that what they tell of the repaired image is that nothing is wrong any more.
func wantChecked(t *testing.T, d damaged) {
	t.Helper()
	refs, code := impl.CountRefs(d.image)
	wantRefs(t, d.name+": CountRefs", refs, code, d.was.Refs, impl.OK)
	list, code := impl.WrongRefs(d.image)
	wantClusters(t, d.name+": WrongRefs", list, code, d.wrongBy())
	list, code = impl.Leaks(d.image)
	wantClusters(t, d.name+": Leaks", list, code, d.leaksBy())
	got, code := impl.Repair(d.image)
	wantImage(t, d.name+": Repair", got, code, d.was, impl.OK)
	wantRepaired(t, d.name, got, d.image)
}

// wantRepaired asks of a repaired image that it is right, that it and each snapshot show what they did, and that nothing is left to repair.
func wantRepaired(t *testing.T, where string, m, was impl.Image) {
	t.Helper()
	if !impl.ImageOK(m) || !rightImage(m) {
		t.Error(where, "is not right:", m)
		return
	}
	wantShown(t, where, m, shownBy(was, was.Table))
	wantSnapsKept(t, where, m, was)
	refs, code := impl.CountRefs(m)
	wantRefs(t, where+": CountRefs, repaired", refs, code, m.Refs, impl.OK)
	list, code := impl.WrongRefs(m)
	wantClusters(t, where+": WrongRefs, repaired", list, code, nil)
	list, code = impl.Leaks(m)
	wantClusters(t, where+": Leaks, repaired", list, code, nil)
	again, code := impl.Repair(m)
	wantImage(t, where+": Repair again", again, code, m, impl.OK)
}

func wantUnchecked(t *testing.T, where string, m impl.Image) {
	t.Helper()
	refs, code := impl.CountRefs(m)
	wantRefs(t, where+": CountRefs", refs, code, nil, impl.ErrBad)
	refs, code = impl.WrongRefs(m)
	wantRefs(t, where+": WrongRefs", refs, code, nil, impl.ErrBad)
	refs, code = impl.Leaks(m)
	wantRefs(t, where+": Leaks", refs, code, nil, impl.ErrBad)
	got, code := impl.Repair(m)
	wantNoImage(t, where+": Repair", got, code, impl.ErrBad)
}

func TestP13ByHand(t *testing.T) {
	m := imageOf([]int{2, 1, 0, 7, 25}, []int{25, 2, 3}, nil, []int{0, 2, 1, 25})
	m.Refs[0], m.Refs[1], m.Refs[4], m.Refs[5], m.Refs[23] = 4, 0, 15, 1, 2
	m.Data[4], m.Data[9] = 77, 78
	refs, code := impl.CountRefs(m)
	wantRefs(t, "CountRefs", refs, code, []int{3, 1, 0, 0, 0, 1, 0, 0, 0, 0, 0, 0, 0, 0, 0, 0, 0, 0, 0, 0, 0, 0, 0, 3}, impl.OK)
	list, code := impl.WrongRefs(m)
	wantClusters(t, "WrongRefs", list, code, []int{0, 1, 4, 23})
	list, code = impl.Leaks(m)
	wantClusters(t, "Leaks", list, code, []int{0, 4})
	got, code := impl.Repair(m)
	want := impl.Image{
		Refs:  []int{3, 1, 0, 0, 0, 1, 0, 0, 0, 0, 0, 0, 0, 0, 0, 0, 0, 0, 0, 0, 0, 0, 0, 3},
		Table: []int{2, 1, 0, 7, 25},
		Snaps: []impl.Snap{{Name: "a", Table: []int{25, 2, 3}}, {Name: "b"}, {Name: "c", Table: []int{0, 2, 1, 25}}},
		Data:  []int{100, 101, 0, 0, 0, 105, 0, 0, 0, 0, 0, 0, 0, 0, 0, 0, 0, 0, 0, 0, 0, 0, 0, 123},
	}
	wantImage(t, "Repair", got, code, want, impl.OK)
	wantRepaired(t, "Repair", got, m)
}

// Right images are what they are counted for: nothing is told of them, and nothing is repaired.
func TestP13RightImages(t *testing.T) {
	snaps, counted, sizes := map[int]int{}, map[int]int{}, map[int]int{}
	for i, m := range append(storeImages(), imageOf(evenTable(12, 1), clustersFrom(12, 12), clustersFrom(0, 12))) {
		wantChecked(t, damaged{"right image " + strconv.Itoa(i), m, m})
		snaps[len(m.Snaps)]++
		sizes[len(m.Table)]++
		for _, n := range m.Refs {
			counted[n]++
		}
	}
	if len(snaps) != 4 || len(counted) != 5 || len(sizes) != 13 {
		t.Error("not all sorts of images:", snaps, counted, sizes)
	}
}

// fewImages have clusters that no, one, two, three and four tables have, the first and the last one among them.
func fewImages() []impl.Image {
	twelve := clustersFrom(12, 12)
	return []impl.Image{
		imageOf(nil), imageOf(nil, nil, nil, nil), imageOf(evenTable(12, 0)), imageOf(evenTable(12, 1), evenTable(12, 1)),
		usedUp(), usedUpBySnaps(), sharing(), imageOf(twelve, twelve, twelve, twelve), imageOf(nil, []int{2, 25}), imageOf([]int{25}, nil, []int{2}),
		imageOf([]int{2}, []int{2}, []int{2}, []int{2}), imageLike(sharing(), func(m *impl.Image) { m.Data[0], m.Data[7], m.Data[23] = 0, mostNumber, 0 }),
	}
}

// Each cluster with each count that there may be.
func TestP13OneCountIsWrong(t *testing.T) {
	great, small := map[int]int{}, map[int]int{}
	for i, m := range fewImages() {
		for c := range 24 {
			for n := range 16 {
				wantChecked(t, damage("image "+strconv.Itoa(i)+", "+strconv.Itoa(n)+" of "+strconv.Itoa(c), m, func(m *impl.Image) { m.Refs[c] = n }))
				if n > m.Refs[c] {
					great[m.Refs[c]]++
				}
				if n < m.Refs[c] {
					small[m.Refs[c]]++
				}
			}
		}
		if t.Failed() {
			return
		}
	}
	if len(great) != 5 || len(small) != 4 {
		t.Error("not all sorts of counts:", great, small)
	}
}

// What all have in common is wrong: every count is the same, one more, or one less.
func TestP13AllCountsAreWrong(t *testing.T) {
	for i, m := range append(exampleImages(), fewImages()...) {
		for n := range 16 {
			wantChecked(t, damage("image "+strconv.Itoa(i)+", all "+strconv.Itoa(n), m, func(m *impl.Image) { m.Refs = evenRefs(n) }))
		}
		for _, by := range []int{1, 2, 11} {
			wantChecked(t, damage("image "+strconv.Itoa(i)+", all more", m, func(m *impl.Image) {
				for c := range m.Refs {
					m.Refs[c] += by
				}
			}))
		}
		wantChecked(t, damage("image "+strconv.Itoa(i)+", all less", m, func(m *impl.Image) {
			for c := range m.Refs {
				m.Refs[c] = max(m.Refs[c]-1, 0)
			}
		}))
		wantChecked(t, damage("image "+strconv.Itoa(i)+", the other way round", m, func(m *impl.Image) { slices.Reverse(m.Refs) }))
	}
}

func TestP13TwoCountsAreWrong(t *testing.T) {
	for i, m := range []impl.Image{sharing(), usedUpBySnaps()} {
		for a := range 24 {
			for b := range a {
				for _, by := range []int{0, 1, 15} {
					wantChecked(t, damage("image "+strconv.Itoa(i)+", "+strconv.Itoa(b)+" and "+strconv.Itoa(a), m, func(m *impl.Image) { m.Refs[a], m.Refs[b] = by, 15-by }))
				}
			}
		}
	}
}

// It is no fault that a cluster that no table has is not 0, be it counted or not: it is repaired, and told only if it is counted.
func TestP13DataThatNoTableHas(t *testing.T) {
	for i, m := range append(fewImages(), exampleImages()...) {
		for c := range 24 {
			if m.Refs[c] > 0 {
				continue
			}
			for _, value := range []int{0, 1, 100 + c, mostNumber} {
				for _, n := range []int{0, 1, 4, 15} {
					d := damage("image "+strconv.Itoa(i)+", data of "+strconv.Itoa(c), m, func(m *impl.Image) { m.Data[c], m.Refs[c] = value, n })
					if len(d.wrongBy()) != min(n, 1) || len(d.leaksBy()) != min(n, 1) {
						t.Fatal("not reckoned as it is:", d.wrongBy(), d.leaksBy())
					}
					wantChecked(t, d)
				}
			}
		}
		wantChecked(t, damage("image "+strconv.Itoa(i)+", all data that none has", m, func(m *impl.Image) {
			for c, n := range m.Refs {
				if n == 0 {
					m.Data[c] = mostNumber - c
				}
			}
		}))
		if t.Failed() {
			return
		}
	}
}

// What tables have is kept, also where it is not counted: an image that reads as if nobody had anything loses nothing.
func TestP13WhatIsNotCountedIsKept(t *testing.T) {
	m := imageLike(sharing(), func(m *impl.Image) { m.Refs = evenRefs(0) })
	got, code := impl.Repair(m)
	wantImage(t, "Repair", got, code, sharing(), impl.OK)
	list, code := impl.WrongRefs(m)
	wantClusters(t, "WrongRefs", list, code, []int{0, 1, 2, 5, 7, 10, 23})
	list, code = impl.Leaks(m)
	wantClusters(t, "Leaks", list, code, nil)
}

// damagedAnyHow has any counts, and any data that no table has.
func damagedAnyHow(r *rand.Rand, was impl.Image) damaged {
	return damage("any damage", was, func(m *impl.Image) {
		for c, n := range was.Refs {
			if r.Intn(3) == 0 {
				m.Refs[c] = r.Intn(16)
			}
			if n == 0 && r.Intn(3) == 0 {
				m.Data[c] = []int{1, r.Intn(1000), mostNumber}[r.Intn(3)]
			}
		}
	})
}

func TestP13AnyDamage(t *testing.T) {
	r := rand.New(rand.NewSource(130))
	for range 3000 {
		wantChecked(t, damagedAnyHow(r, randomImage(r)))
		if t.Failed() {
			return
		}
	}
}

// A repaired image is worked with like one that was never wrong, and stands in a store like it.
func TestP13RepairedImagesAreWorkedWith(t *testing.T) {
	r := rand.New(rand.NewSource(131))
	for range 40 {
		m := randomImage(r)
		for range 60 {
			d := damagedAnyHow(r, m)
			wantChecked(t, d)
			m, _ = impl.Repair(d.image)
			wantImageOn(t, "the store", diskOfImage(d.was), m)
			list, code := impl.DiffUpdates(d.was, m)
			wantUpdates(t, "DiffUpdates", list, code, nil, impl.OK)
			m, _, _ = wantWalked(t, r, m)
			if t.Failed() {
				return
			}
		}
	}
}

// What leaks is not taken for a write while it is counted; repaired it is.
func TestP13WhatLeakedCanBeTaken(t *testing.T) {
	was := imageOf([]int{0, 0}, clustersFrom(0, 12), clustersFrom(12, 11))
	m := imageLike(was, func(m *impl.Image) { m.Refs[23], m.Data[23] = 1, 9 })
	list, code := impl.Leaks(m)
	wantClusters(t, "Leaks", list, code, []int{23})
	if n, code := impl.FreeCluster(m.Refs); n != 0 || code != impl.ErrFull {
		t.Error("FreeCluster", n, code)
	}
	m, code = impl.Repair(m)
	wantImage(t, "Repair", m, code, was, impl.OK)
	m, code = impl.WriteCluster(m, 1, 8)
	wantImage(t, "WriteCluster", m, code, imageLike(was, func(m *impl.Image) { m.Table[1], m.Refs[23], m.Data[23] = 25, 1, 8 }), impl.OK)
}
