package tests

import (
	"math/rand"
	"slices"
	"strconv"
	"testing"

	"loop.example/g00456/impl"
)

// Promise 12, of what a request changes, and of what is stale behind it; p12_reckoning_test.go says what it is held against.

// request is a change of an image, and how many sectors it may change at most.
type request struct {
	name string
	most int
	run  func(m impl.Image) (impl.Image, int)
}

func requestsOn(m impl.Image) []request {
	out := []request{{"SnapCreate", 3, func(m impl.Image) (impl.Image, int) { return impl.SnapCreate(m, "new") }}}
	for g := range m.Table {
		for _, value := range []int{0, 9, 100, mostNumber} {
			out = append(out, request{"WriteCluster", 3, func(m impl.Image) (impl.Image, int) { return impl.WriteCluster(m, g, value) }})
		}
		out = append(out, request{"ZeroCluster", 2, func(m impl.Image) (impl.Image, int) { return impl.ZeroCluster(m, g) }})
	}
	for size := range 13 {
		out = append(out, request{"ResizeImage", 2, resizedTo(size)})
	}
	for i, s := range m.Snaps {
		// The snapshots behind a deleted one come one place forward.
		out = append(out,
			request{"SnapDelete", 2 + len(m.Snaps) - 1 - i, func(m impl.Image) (impl.Image, int) { return impl.SnapDelete(m, s.Name) }},
			request{"SnapRevert", 2, func(m impl.Image) (impl.Image, int) { return impl.SnapRevert(m, s.Name) }})
	}
	return out
}

// wantRequested asks for the updates between two images, few of them, and for the second image where they are applied to the first one's sectors.
func wantRequested(t *testing.T, where string, d impl.Disk, a, b impl.Image, most int) []impl.Update {
	t.Helper()
	list, code := impl.DiffUpdates(a, b)
	wantUpdates(t, where, list, code, diffBy(sectorsBy(a), sectorsBy(b)), impl.OK)
	if len(list) > most || len(list) > impl.MaxUpdates {
		t.Error(where, "changes", len(list), "sectors, not", most, "at most")
	}
	wantImageOn(t, where, holding(d, list), b)
	return list
}

func TestP12ARequestChangesFewSectors(t *testing.T) {
	most := map[string]int{}
	for _, m := range storeImages() {
		d := holding(rubbishDisk(), updatesBy(m))
		for _, q := range requestsOn(m) {
			next, code := q.run(m)
			list := wantRequested(t, q.name, d, m, next, q.most)
			if code != impl.OK && len(list) != 0 {
				t.Error(q.name, "has code", code, "and changes", list)
			}
			most[q.name] = max(most[q.name], len(list))
		}
		if t.Failed() {
			return
		}
	}
	for name, want := range map[string]int{"WriteCluster": 3, "ZeroCluster": 2, "ResizeImage": 2, "SnapCreate": 3, "SnapDelete": 4, "SnapRevert": 2} {
		if most[name] != want {
			t.Error(name, "changed at most", most[name], "not", want)
		}
	}
}

func TestP12RequestsByHand(t *testing.T) {
	m := imageOf([]int{0, 2, 4}, []int{4, 0, 7})
	placesOf := func(next impl.Image, code int) []int {
		t.Helper()
		wantOK(t, "request", code)
		list, code := impl.DiffUpdates(m, next)
		wantOK(t, "DiffUpdates", code)
		var out []int
		for _, u := range list {
			out = append(out, u.At)
		}
		return out
	}
	for i, c := range []struct{ got, want []int }{
		{placesOf(impl.WriteCluster(m, 1, 9)), []int{15}},
		{placesOf(impl.WriteCluster(m, 1, 100)), nil},
		{placesOf(impl.WriteCluster(m, 0, 9)), []int{10, 11, 16}},
		{placesOf(impl.WriteCluster(m, 2, 102)), []int{10, 11, 16}},
		{placesOf(impl.ZeroCluster(m, 0)), []int{11}},
		{placesOf(impl.ZeroCluster(m, 1)), []int{10, 11}},
		{placesOf(impl.ResizeImage(m, 12)), []int{11}},
		{placesOf(impl.ResizeImage(m, 2)), []int{10, 11}},
		{placesOf(impl.ResizeImage(m, 3)), nil},
		{placesOf(impl.SnapCreate(m, "b")), []int{9, 10, 12 + 1}},
		{placesOf(impl.SnapDelete(m, "a")), []int{9, 10}},
		{placesOf(impl.SnapRevert(m, "a")), []int{10, 11}},
	} {
		if !slices.Equal(c.got, c.want) {
			t.Error("request", i, "changes", c.got, "not", c.want)
		}
	}
}

// staleIn counts sectors that hold a right record, but none of the image's.
func staleIn(d impl.Disk, m impl.Image) (data, tables int) {
	for c, n := range m.Refs {
		if _, ok := valueBy(d.Sectors[15+c]); ok && n == 0 {
			data++
		}
	}
	for at := 12 + len(m.Snaps); at < 15; at++ {
		if _, ok := tableBy(d.Sectors[at]); ok {
			tables++
		}
	}
	return data, tables
}

// Long walks by journals, the hosts in turn: the disk holds what is stale of all that was, and is read as the newest image.
func TestP12Walks(t *testing.T) {
	r := rand.New(rand.NewSource(121))
	staleData, staleTables := 0, 0
	for i, m := range storeImages() {
		if i%3 != 0 {
			continue
		}
		d := holding(rubbishDisk(), updatesBy(m))
		for of := range 4 {
			d.Sectors[39+6*of] = ""
		}
		for step := range 60 {
			next, what, _ := wantWalked(t, r, m)
			list := wantRequested(t, what, d, m, next, 4)
			want, host := holding(d, list), step%4
			d = must(t)(impl.MovesDo(d, host, planned(t, host, step, list)))
			if !slices.Equal(d.Sectors[:39], want.Sectors[:39]) {
				t.Fatal("other sectors are changed, too:", what)
			}
			m = next
			wantImageOn(t, what, d, m)
			if t.Failed() {
				t.Fatal("behind step", step)
			}
			data, tables := staleIn(d, m)
			staleData, staleTables = staleData+data, staleTables+tables
		}
	}
	if staleData < 1000 || staleTables < 300 {
		t.Error("few sectors were stale:", staleData, staleTables)
	}
}

// A cluster that was given up keeps its elder data on the disk; when it is taken again it is written, also with the value that is stale there.
func TestP12StaleDataIsWrittenAnew(t *testing.T) {
	first := imageOf([]int{2, 3})
	d := diskOfImage(first)
	given, code := impl.ZeroCluster(first, 1)
	wantOK(t, "ZeroCluster", code)
	d = holding(d, wantRequested(t, "given up", d, first, given, 2))
	if d.Sectors[16] != sealed(4, []int{101}) {
		t.Error("what is stale was written over")
	}
	for _, value := range []int{101, 0, 7} {
		again, code := impl.WriteCluster(given, 0, value)
		wantOK(t, "WriteCluster in place", code)
		wantRequested(t, "in place", d, given, again, 1)
		again, code = impl.WriteCluster(given, 1, value)
		wantOK(t, "WriteCluster", code)
		list := wantRequested(t, "taken again", d, given, again, 3)
		if list[len(list)-1] != (impl.Update{At: 16, Data: sealed(4, []int{value})}) {
			t.Error("taken again it is not written:", list)
		}
	}
}

// A deleted snapshot's table stays on the disk; one that is made again is written behind the others.
func TestP12StaleTablesAreWrittenAnew(t *testing.T) {
	m := sharing()
	d := diskOfImage(m)
	for _, name := range []string{"b", "a", "c"} {
		next, code := impl.SnapDelete(m, name)
		wantOK(t, "SnapDelete "+name, code)
		d = holding(d, wantRequested(t, "SnapDelete "+name, d, m, next, 4))
		m = next
	}
	if d.Sectors[14] != sealed(3, sharing().Snaps[2].Table) {
		t.Error("what is stale was written over")
	}
	for _, name := range []string{"c", "b", "a"} {
		next, code := impl.SnapCreate(m, name)
		wantOK(t, "SnapCreate "+name, code)
		d = holding(d, wantRequested(t, "SnapCreate "+name, d, m, next, 3))
		m = next
	}
	wantImageOn(t, "three again", d, m)
}

// Whatever stands in the sectors that the image has not: rubbish, nothing, or another image's records.
func TestP12OtherSectorsAreNotLookedAt(t *testing.T) {
	elder := []map[int]string{sectorsBy(usedUp()), sectorsBy(sharing()), sectorsBy(usedUpBySnaps())}
	for i, m := range storeImages() {
		own := sectorsBy(m)
		for _, base := range []impl.Disk{emptyDisk(), rubbishDisk(), agedDisk(), mixedDisk(), journalDisk(), leaderDisk(), deltaDisk()} {
			base.Pending = nil
			wantImageOn(t, "over an elder disk", holding(base, updatesBy(m)), m)
		}
		d := diskOfImage(m)
		for at := range 64 {
			if own[at] != "" {
				continue
			}
			for _, text := range []string{"", "rubbish", elder[i%3][at], own[11], own[9], sealed(4, []int{7}), sealed(4, []int{7, 8})} {
				d.Sectors[at] = text
				got, code := impl.ReadImage(d, at%4)
				wantImage(t, "sector "+strconv.Itoa(at), got, code, m, impl.OK)
			}
		}
		if t.Failed() {
			return
		}
	}
}
