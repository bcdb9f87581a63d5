package tests

import (
	"math/rand"
	"slices"
	"strconv"
	"strings"
	"testing"

	"loop.example/g00456/impl"
)

// Promise 11, of snapshots; p11_reckoning_test.go says what it is held against.

// snapCall is a call that takes an image and a name, and what it is reckoned to answer for a right image.
type snapCall struct {
	name string
	run  func(m impl.Image, name string) (impl.Image, int)
	by   func(m impl.Image, name string) (impl.Image, int)
}

func snapCalls() []snapCall {
	return []snapCall{
		{"SnapCreate", impl.SnapCreate, createBy},
		{"SnapDelete", impl.SnapDelete, deleteBy},
		{"SnapRevert", impl.SnapRevert, revertBy},
	}
}

func anySnapNames() []string {
	return append(noSnapNames(), "a", "b", "c", "d", "z", "aa", "ab", "aaaaaa", "zzzzzz", "abcdef", "azazaz", "new")
}

func longNames() []string {
	return []string{strings.Repeat("a", impl.MaxText+1), strings.Repeat("A", impl.MaxText+1), strings.Repeat("\x00", 3*impl.MaxText)}
}

func TestP11SnapshotsByHand(t *testing.T) {
	m := imageOf([]int{0, 1, 2, 4}, []int{4, 0, 7})
	got, code := impl.SnapCreate(m, "b")
	wantImage(t, "SnapCreate", got, code, imageLike(m, func(m *impl.Image) {
		m.Snaps = append(m.Snaps, impl.Snap{Name: "b", Table: []int{0, 1, 2, 4}})
		m.Refs[0], m.Refs[2] = 2, 3
	}), impl.OK)
	got, code = impl.SnapDelete(m, "a")
	wantImage(t, "SnapDelete", got, code, imageLike(m, func(m *impl.Image) {
		m.Snaps = nil
		m.Refs[2], m.Refs[5], m.Data[5] = 1, 0, 0
	}), impl.OK)
	got, code = impl.SnapRevert(m, "a")
	wantImage(t, "SnapRevert", got, code, imageLike(m, func(m *impl.Image) {
		m.Table = []int{4, 0, 7}
		m.Refs[0], m.Data[0], m.Refs[5] = 0, 0, 2
	}), impl.OK)
}

func TestP11SnapshotsAsReckoned(t *testing.T) {
	for _, call := range snapCalls() {
		met := map[int]int{}
		for _, m := range exampleImages() {
			for _, name := range slices.Concat(anySnapNames(), longNames(), namesBy(m)) {
				want, wantCode := call.by(m, name)
				got, code := call.run(m, name)
				wantImage(t, call.name, got, code, want, wantCode)
				met[code]++
				if code == impl.OK && (!rightImage(got) || !impl.ImageOK(got)) {
					t.Error(call.name, "is not right any more:", got)
				}
			}
		}
		codes := []int{impl.OK, impl.ErrLong, impl.ErrNone}
		if call.name == "SnapCreate" {
			codes = []int{impl.OK, impl.ErrLong, impl.ErrName, impl.ErrTwice, impl.ErrMany}
		}
		for _, code := range codes {
			if met[code] == 0 || len(met) != len(codes) {
				t.Error(call.name, "answered other codes:", met)
			}
		}
	}
}

// A new snapshot changes nothing that is shown, is the last one, and shows what the image did.
func TestP11NewSnapshotsShowWhatWasThere(t *testing.T) {
	for _, m := range exampleImages() {
		got, code := impl.SnapCreate(m, "new")
		if len(m.Snaps) == 3 {
			wantImage(t, "a fourth one", got, code, m, impl.ErrMany)
			continue
		}
		wantOK(t, "SnapCreate", code)
		wantShown(t, "SnapCreate", got, shownBy(m, m.Table))
		names, code := impl.SnapNames(got)
		if !slices.Equal(names, append(namesBy(m), "new")) || code != impl.OK {
			t.Error("SnapNames", names, code)
		}
		back, code := impl.SnapDelete(got, "new")
		wantImage(t, "made and deleted", back, code, m, impl.OK)
		same, code := impl.SnapRevert(got, "new")
		wantImage(t, "made and gone back to", same, code, got, impl.OK)
	}
}

// Whatever is written, zeroed or cut off behind a snapshot: gone back to, it shows what was there.
func TestP11SnapshotsStayWhatTheyWere(t *testing.T) {
	for _, m := range exampleImages() {
		if len(m.Snaps) == 3 {
			continue
		}
		was := shownBy(m, m.Table)
		taken, code := impl.SnapCreate(m, "new")
		wantOK(t, "SnapCreate", code)
		for i, work := range [][]func(impl.Image) (impl.Image, int){
			allWritten(len(m.Table), 5),
			slices.Concat(allWritten(len(m.Table), 5), allWritten(len(m.Table), mostNumber)),
			allZeroed(len(m.Table)),
			slices.Concat(allZeroed(len(m.Table)), allWritten(len(m.Table), 0)),
			{resizedTo(0)},
			{resizedTo(12)},
			slices.Concat([]func(impl.Image) (impl.Image, int){resizedTo(0), resizedTo(12)}, allWritten(12, 6)),
		} {
			now := taken
			for _, f := range work {
				if next, code := f(now); code == impl.OK {
					now = next
				} else {
					wantImage(t, "no room", next, code, now, impl.ErrFull)
				}
			}
			where := "work " + strconv.Itoa(i)
			back, code := impl.SnapRevert(now, "new")
			wantImage(t, where, back, code, taken, impl.OK)
			wantShown(t, where, back, was)
			wantSnapsKept(t, where, back, taken)
		}
	}
}

func allWritten(size, value int) []func(impl.Image) (impl.Image, int) {
	var out []func(impl.Image) (impl.Image, int)
	for g := range size {
		out = append(out, func(m impl.Image) (impl.Image, int) { return impl.WriteCluster(m, g, value) })
	}
	return out
}

func allZeroed(size int) []func(impl.Image) (impl.Image, int) {
	var out []func(impl.Image) (impl.Image, int)
	for g := range size {
		out = append(out, func(m impl.Image) (impl.Image, int) { return impl.ZeroCluster(m, g) })
	}
	return out
}

func resizedTo(size int) func(impl.Image) (impl.Image, int) {
	return func(m impl.Image) (impl.Image, int) { return impl.ResizeImage(m, size) }
}

// A deleted snapshot takes nothing from the image nor from the other ones, which keep their order.
func TestP11DeletedSnapshots(t *testing.T) {
	for _, m := range exampleImages() {
		for i, s := range m.Snaps {
			got, code := impl.SnapDelete(m, s.Name)
			wantOK(t, "SnapDelete", code)
			wantShown(t, "SnapDelete", got, shownBy(m, m.Table))
			others := imageLike(m, func(m *impl.Image) { m.Snaps = slices.Delete(m.Snaps, i, i+1) })
			wantSnapsKept(t, "SnapDelete", got, others)
			again, code := impl.SnapDelete(got, s.Name)
			wantImage(t, "deleted again", again, code, got, impl.ErrNone)
			again, code = impl.SnapRevert(got, s.Name)
			wantImage(t, "gone back to when it was deleted", again, code, got, impl.ErrNone)
			again, code = impl.SnapCreate(got, s.Name)
			wantOK(t, "made again", code)
			if !slices.Equal(namesBy(again), append(namesBy(others), s.Name)) {
				t.Error("made again it is not the last one:", namesBy(again))
			}
		}
	}
}

func TestP11ImagesThatGoBack(t *testing.T) {
	for _, m := range exampleImages() {
		for _, s := range m.Snaps {
			got, code := impl.SnapRevert(m, s.Name)
			wantOK(t, "SnapRevert", code)
			wantRefs(t, "the image's table", got.Table, code, s.Table, impl.OK)
			wantShown(t, "SnapRevert", got, shownBy(m, s.Table))
			wantSnapsKept(t, "SnapRevert", got, m)
			again, code := impl.SnapRevert(got, s.Name)
			wantImage(t, "gone back to twice", again, code, got, impl.OK)
		}
	}
}

func TestP11NamesInTheirOrder(t *testing.T) {
	for _, m := range exampleImages() {
		names, code := impl.SnapNames(m)
		if !slices.Equal(names, namesBy(m)) || code != impl.OK {
			t.Error("SnapNames", names, code)
		}
	}
	m := imageOf([]int{0})
	for i, name := range []string{"z", "abcdef", "m"} {
		var code int
		m, code = impl.SnapCreate(m, name)
		wantOK(t, "SnapCreate", code)
		if names, code := impl.SnapNames(m); !slices.Equal(names, []string{"z", "abcdef", "m"}[:i+1]) || code != impl.OK {
			t.Error("SnapNames", names, code)
		}
	}
}

// Several faults at once: no name ahead of one that is there, that ahead of too many; a name that is too long ahead of all.
func TestP11FaultsInTheirOrder(t *testing.T) {
	full := sharing()
	for _, c := range []struct {
		name string
		want int
	}{{"a", impl.ErrTwice}, {"c", impl.ErrTwice}, {"d", impl.ErrMany}, {"", impl.ErrName}, {"A", impl.ErrName}, {"aaaaaaa", impl.ErrName}} {
		got, code := impl.SnapCreate(full, c.name)
		wantImage(t, "SnapCreate "+c.name, got, code, full, c.want)
	}
	for _, name := range longNames() {
		for _, call := range snapCalls() {
			for _, m := range append(exampleImages(), wrongImages()[0].image, impl.Image{}) {
				got, code := call.run(m, name)
				wantImage(t, call.name+" of a long name", got, code, m, impl.ErrLong)
			}
		}
	}
}

// wantWalked takes any step of an image's, and holds it to the reckoning.
func wantWalked(t *testing.T, r *rand.Rand, m impl.Image) (impl.Image, string, int) {
	t.Helper()
	g, size, value := r.Intn(14)-1, 13-r.Intn(5)*r.Intn(4), []int{0, mostNumber, r.Intn(1000), -1}[r.Intn(31)/10]
	name := []string{"a", "b", "c", "dddddd", "Z"}[r.Intn(5)]
	var got, want impl.Image
	var code, wantCode int
	var what string
	switch n := r.Intn(20); {
	case n < 9:
		what = "WriteCluster"
		got, code = impl.WriteCluster(m, g, value)
		want, wantCode = writeBy(m, g, value)
	case n < 11:
		what = "ZeroCluster"
		got, code = impl.ZeroCluster(m, g)
		want, wantCode = zeroBy(m, g)
	case n < 13:
		what = "ResizeImage"
		got, code = impl.ResizeImage(m, size)
		want, wantCode = resizeBy(m, size)
	default:
		call := snapCalls()[[]int{0, 0, 0, 1, 2, 2, 2}[n-13]]
		what = call.name
		got, code = call.run(m, name)
		want, wantCode = call.by(m, name)
	}
	wantImage(t, what, got, code, want, wantCode)
	return got, what, code
}

// Long walks: all is as reckoned, always right, and what a snapshot shows is what was there when it was made.
func TestP11Walks(t *testing.T) {
	r := rand.New(rand.NewSource(111))
	met := map[string]map[int]int{}
	for _, m := range exampleImages() {
		shots := map[string][]int{}
		for _, s := range m.Snaps {
			shots[s.Name] = shownBy(m, s.Table)
		}
		for range 120 {
			next, what, code := wantWalked(t, r, m)
			if t.Failed() {
				t.Fatal("behind", m)
			}
			if met[what] == nil {
				met[what] = map[int]int{}
			}
			met[what][code]++
			if what == "SnapCreate" && code == impl.OK {
				shots[next.Snaps[len(next.Snaps)-1].Name] = shownBy(m, m.Table)
			}
			m = next
			if !impl.ImageOK(m) || !rightImage(m) {
				t.Fatal("not right:", m)
			}
			for _, s := range m.Snaps {
				if !slices.Equal(shownBy(m, s.Table), shots[s.Name]) {
					t.Fatal("a snapshot shows another thing:", s.Name, m)
				}
			}
		}
	}
	for what, codes := range map[string][]int{
		"WriteCluster": {impl.OK, impl.ErrRange, impl.ErrFull},
		"ZeroCluster":  {impl.OK, impl.ErrRange},
		"ResizeImage":  {impl.OK, impl.ErrRange},
		"SnapCreate":   {impl.OK, impl.ErrName, impl.ErrTwice, impl.ErrMany},
		"SnapDelete":   {impl.OK, impl.ErrNone},
		"SnapRevert":   {impl.OK, impl.ErrNone},
	} {
		for _, code := range codes {
			if met[what][code] < 5 {
				t.Error(what, "met too little of code", code, met[what])
			}
		}
	}
}
