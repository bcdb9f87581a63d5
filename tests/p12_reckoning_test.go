package tests

import (
	"math/rand"
	"slices"
	"strconv"
	"strings"
	"testing"

	"loop.example/g00456/impl"
)

// Promise 12: an image is read back from its sectors; a request changes few of them.
// Here stands what the tests of it reckon with: an image's sectors, written and read without the program.

const letters = " abcdefghijklmnopqrstuvwxyz"

func nameNumber(name string) int {
	n, weight := 0, 1
	for _, b := range slices.Backward([]byte(name)) {
		n += weight * strings.IndexByte(letters, b)
		weight *= 27
	}
	return n
}

func nameBy(n int) (string, bool) {
	name := ""
	for ; n > 0; n /= 27 {
		name = letters[n%27:n%27+1] + name
	}
	return name, rightSnapName(name)
}

// superText has a number of snapshots and numbers behind it, whether they fit each other or not.
func superText(count int, names ...int) string {
	return sealed(1, append([]int{count}, names...))
}

// sectorsBy are an image's texts by their places.
func sectorsBy(m impl.Image) map[int]string {
	var names []int
	for _, name := range namesBy(m) {
		names = append(names, nameNumber(name))
	}
	out := map[int]string{9: superText(len(names), names...), 10: refsText(m.Refs)}
	for i, table := range tablesIn(m) {
		out[11+i] = sealed(3, table)
	}
	for c, n := range m.Refs {
		if n > 0 {
			out[15+c] = sealed(4, []int{m.Data[c]})
		}
	}
	return out
}

// diffBy goes through all places of the image's, one behind the other.
func diffBy(was, now map[int]string) []impl.Update {
	var out []impl.Update
	for at := 9; at < 39; at++ {
		text, there := now[at]
		if old, wasThere := was[at]; there && (!wasThere || old != text) {
			out = append(out, impl.Update{At: at, Data: text})
		}
	}
	return out
}

func updatesBy(m impl.Image) []impl.Update {
	return diffBy(nil, sectorsBy(m))
}

func valueBy(text string) (int, bool) {
	kind, list, ok := opened(text)
	if !ok || kind != 4 || len(list) != 1 {
		return 0, false
	}
	return list[0], true
}

func namesOn(d impl.Disk, host int) ([]string, bool) {
	kind, list, ok := opened(readBy(d, host, 9))
	if !ok || kind != 1 || len(list) == 0 || len(list) > 4 || list[0] != len(list)-1 {
		return nil, false
	}
	var out []string
	for _, n := range list[1:] {
		name, ok := nameBy(n)
		if !ok {
			return nil, false
		}
		out = append(out, name)
	}
	return out, true
}

// imageOn is the image that a host reads, and false if there is no right one.
func imageOn(d impl.Disk, host int) (impl.Image, bool) {
	names, ok := namesOn(d, host)
	refs, refsOK := refsBy(readBy(d, host, 10))
	table, tableOK := tableBy(readBy(d, host, 11))
	if !ok || !refsOK || !tableOK {
		return impl.Image{}, false
	}
	m := impl.Image{Refs: refs, Table: table, Data: make([]int, 24)}
	for i, name := range names {
		table, ok := tableBy(readBy(d, host, 12+i))
		if !ok {
			return impl.Image{}, false
		}
		m.Snaps = append(m.Snaps, impl.Snap{Name: name, Table: table})
	}
	for c, n := range refs {
		if n == 0 {
			continue
		}
		if m.Data[c], ok = valueBy(readBy(d, host, 15+c)); !ok {
			return impl.Image{}, false
		}
	}
	if !rightImage(m) {
		return impl.Image{}, false
	}
	return m, true
}

// holding is d with these updates in their places, sure.
func holding(d impl.Disk, list []impl.Update) impl.Disk {
	d = cloneDisk(d)
	for _, u := range list {
		d.Sectors[u.At] = u.Data
	}
	return d
}

func diskOfImage(m impl.Image) impl.Disk {
	return holding(emptyDisk(), updatesBy(m))
}

// rubbishDisk has in each sector what is no record.
func rubbishDisk() impl.Disk {
	d := emptyDisk()
	for at := range d.Sectors {
		d.Sectors[at] = "rubbish " + strconv.Itoa(at)
	}
	return d
}

// wantReading holds what a host reads against the reckoning, and tells whether it is an image.
func wantReading(t *testing.T, where string, d impl.Disk, host int) bool {
	t.Helper()
	got, code := impl.ReadImage(d, host)
	want, ok := imageOn(d, host)
	if !ok {
		wantNoImage(t, where+": ReadImage by "+strconv.Itoa(host), got, code, impl.ErrBroken)
		return false
	}
	wantImage(t, where+": ReadImage by "+strconv.Itoa(host), got, code, want, impl.OK)
	return true
}

// wantImageOn asks all hosts for one image.
func wantImageOn(t *testing.T, where string, d impl.Disk, want impl.Image) {
	t.Helper()
	for host := range 4 {
		got, code := impl.ReadImage(d, host)
		wantImage(t, where+": ReadImage by "+strconv.Itoa(host), got, code, want, impl.OK)
	}
}

func wantNoImageOn(t *testing.T, where string, d impl.Disk, want int) {
	t.Helper()
	for host := range 4 {
		got, code := impl.ReadImage(d, host)
		wantNoImage(t, where+": ReadImage by "+strconv.Itoa(host), got, code, want)
	}
}

// told is a list whose bytes can be read.
func told(list []impl.Update) string {
	var out []string
	for _, u := range list {
		out = append(out, strconv.Itoa(u.At)+" "+strconv.Quote(u.Data))
	}
	return "[" + strings.Join(out, ", ") + "]"
}

func wantUpdates(t *testing.T, where string, got []impl.Update, code int, want []impl.Update, wantCode int) {
	t.Helper()
	if !slices.Equal(got, want) || code != wantCode {
		t.Errorf("%s: code %d, not %d; %s, not %s", where, code, wantCode, told(got), told(want))
	}
}

// storeImages are right: the examples, and edges of what sectors hold.
func storeImages() []impl.Image {
	out := exampleImages()
	for _, names := range [][]string{{"a"}, {"z"}, {"zzzzzz"}, {"aaaaaa"}, {"zzzzzz", "a"}, {"a", "aa", "aaa"}, {"aaa", "aa", "a"}, {"zzzzzz", "zzzzzy", "yzzzzz"}, {"abcdef", "m", "ba"}} {
		m := imageOf([]int{2, 1, 25}, [][]int{{25}, {2, 0}, nil}[:len(names)]...)
		for i, name := range names {
			m.Snaps[i].Name = name
		}
		out = append(out, m)
	}
	for _, value := range []int{0, 1, 255, 256, 1 << 24, mostNumber - 1, mostNumber} {
		out = append(out,
			imageLike(imageOf([]int{2, 25}), func(m *impl.Image) { m.Data[0], m.Data[23] = value, value }),
			imageLike(usedUp(), func(m *impl.Image) { m.Data = slices.Repeat([]int{value}, 24) }))
	}
	return out
}

func TestP12ReckoningIsRight(t *testing.T) {
	r := rand.New(rand.NewSource(120))
	for _, m := range append(storeImages(), randomImage(r)) {
		for _, d := range []impl.Disk{emptyDisk(), rubbishDisk()} {
			got, ok := imageOn(holding(d, updatesBy(m)), r.Intn(4))
			if !rightImage(m) || !ok || !sameImage(got, m) {
				t.Error("not reckoned as it is:", m)
			}
		}
	}
	if _, ok := imageOn(emptyDisk(), 0); ok {
		t.Error("an image on an empty disk")
	}
}
