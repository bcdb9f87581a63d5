package tests

import (
	"math/rand"
	"slices"
	"strconv"
	"strings"
	"testing"

	"loop.example/g00456/impl"
)

// Promise 11: what is written is read, and nothing else is changed; a snapshot is what was there, whatever is written behind it; what is cut off is gone.
// Here stands what the tests of it reckon with: images that are made, held against each other and changed without the program.

func cloneImage(m impl.Image) impl.Image {
	m.Refs, m.Table, m.Data, m.Snaps = slices.Clone(m.Refs), slices.Clone(m.Table), slices.Clone(m.Data), slices.Clone(m.Snaps)
	for i, s := range m.Snaps {
		m.Snaps[i].Table = slices.Clone(s.Table)
	}
	return m
}

// sameImage holds nil and empty lists for the same.
func sameImage(a, b impl.Image) bool {
	return slices.Equal(a.Refs, b.Refs) && slices.Equal(a.Table, b.Table) && slices.Equal(a.Data, b.Data) &&
		slices.EqualFunc(a.Snaps, b.Snaps, func(x, y impl.Snap) bool { return x.Name == y.Name && slices.Equal(x.Table, y.Table) })
}

func tablesIn(m impl.Image) [][]int {
	out := [][]int{m.Table}
	for _, s := range m.Snaps {
		out = append(out, s.Table)
	}
	return out
}

// holders is how many tables have a cluster.
func holders(m impl.Image, c int) int {
	n := 0
	for _, table := range tablesIn(m) {
		if slices.Contains(table, 2+c) {
			n++
		}
	}
	return n
}

func rightSnapName(name string) bool {
	return len(name) >= 1 && len(name) <= 6 && strings.Trim(name, "abcdefghijklmnopqrstuvwxyz") == ""
}

func rightImage(m impl.Image) bool {
	if len(m.Refs) != 24 || len(m.Data) != 24 || len(m.Snaps) > 3 {
		return false
	}
	for i, s := range m.Snaps {
		if !rightSnapName(s.Name) || slices.IndexFunc(m.Snaps, func(x impl.Snap) bool { return x.Name == s.Name }) < i {
			return false
		}
	}
	for _, table := range tablesIn(m) {
		rising := slices.Sorted(slices.Values(clustersBy(table)))
		if !rightTable(table) || len(slices.Compact(slices.Clone(rising))) != len(rising) {
			return false
		}
	}
	for c, n := range m.Data {
		if n < 0 || n > mostNumber || m.Refs[c] != holders(m, c) || m.Refs[c] == 0 && n != 0 {
			return false
		}
	}
	return true
}

// droppedBy counts the cluster of an entry once less.
func droppedBy(m *impl.Image, entry int) {
	if entry < 2 {
		return
	}
	m.Refs[entry-2]--
	if m.Refs[entry-2] == 0 {
		m.Data[entry-2] = 0
	}
}

func keptBy(m *impl.Image, table []int) {
	for _, c := range clustersBy(table) {
		m.Refs[c]++
	}
}

// writeBy, zeroBy, resizeBy, createBy, deleteBy and revertBy change right images, count by count.
func writeBy(m impl.Image, g, value int) (impl.Image, int) {
	m = cloneImage(m)
	if g < 0 || g >= len(m.Table) || value < 0 || value > mostNumber {
		return m, impl.ErrRange
	}
	was := m.Table[g]
	if was >= 2 && m.Refs[was-2] == 1 {
		m.Data[was-2] = value
		return m, impl.OK
	}
	c := slices.Index(m.Refs, 0)
	if c < 0 {
		return m, impl.ErrFull
	}
	m.Table[g], m.Refs[c], m.Data[c] = 2+c, 1, value
	droppedBy(&m, was)
	return m, impl.OK
}

func zeroBy(m impl.Image, g int) (impl.Image, int) {
	m = cloneImage(m)
	if g < 0 || g >= len(m.Table) {
		return m, impl.ErrRange
	}
	droppedBy(&m, m.Table[g])
	m.Table[g] = 1
	return m, impl.OK
}

func resizeBy(m impl.Image, size int) (impl.Image, int) {
	m = cloneImage(m)
	if size < 0 || size > 12 {
		return m, impl.ErrRange
	}
	for len(m.Table) > size {
		droppedBy(&m, m.Table[len(m.Table)-1])
		m.Table = m.Table[:len(m.Table)-1]
	}
	for len(m.Table) < size {
		m.Table = append(m.Table, 0)
	}
	return m, impl.OK
}

func snapAt(m impl.Image, name string) int {
	return slices.IndexFunc(m.Snaps, func(s impl.Snap) bool { return s.Name == name })
}

func createBy(m impl.Image, name string) (impl.Image, int) {
	m = cloneImage(m)
	switch {
	case len(name) > impl.MaxText:
		return m, impl.ErrLong
	case !rightSnapName(name):
		return m, impl.ErrName
	case snapAt(m, name) >= 0:
		return m, impl.ErrTwice
	case len(m.Snaps) == 3:
		return m, impl.ErrMany
	}
	keptBy(&m, m.Table)
	m.Snaps = append(m.Snaps, impl.Snap{Name: name, Table: slices.Clone(m.Table)})
	return m, impl.OK
}

func deleteBy(m impl.Image, name string) (impl.Image, int) {
	m = cloneImage(m)
	i := snapAt(m, name)
	if len(name) > impl.MaxText {
		return m, impl.ErrLong
	}
	if i < 0 {
		return m, impl.ErrNone
	}
	for _, entry := range m.Snaps[i].Table {
		droppedBy(&m, entry)
	}
	m.Snaps = append(m.Snaps[:i:i], m.Snaps[i+1:]...)
	return m, impl.OK
}

func revertBy(m impl.Image, name string) (impl.Image, int) {
	m = cloneImage(m)
	i := snapAt(m, name)
	if len(name) > impl.MaxText {
		return m, impl.ErrLong
	}
	if i < 0 {
		return m, impl.ErrNone
	}
	keptBy(&m, m.Snaps[i].Table)
	for _, entry := range m.Table {
		droppedBy(&m, entry)
	}
	m.Table = slices.Clone(m.Snaps[i].Table)
	return m, impl.OK
}

// shownBy is what a table shows of an image's data.
func shownBy(m impl.Image, table []int) []int {
	out := make([]int, len(table))
	for g, entry := range table {
		if entry >= 2 {
			out[g] = m.Data[entry-2]
		}
	}
	return out
}

func namesBy(m impl.Image) []string {
	var out []string
	for _, s := range m.Snaps {
		out = append(out, s.Name)
	}
	return out
}

// imageOf has a table, and snapshots "a", "b" and "c" of the others, with counts that fit; cluster c has 100 + c.
func imageOf(table []int, snaps ...[]int) impl.Image {
	m := impl.Image{Refs: make([]int, 24), Table: slices.Clone(table), Data: make([]int, 24)}
	for i, s := range snaps {
		m.Snaps = append(m.Snaps, impl.Snap{Name: string(rune('a' + i)), Table: slices.Clone(s)})
	}
	for _, table := range tablesIn(m) {
		for _, c := range clustersBy(table) {
			m.Refs[c]++
			m.Data[c] = 100 + c
		}
	}
	return m
}

func imageLike(m impl.Image, change func(m *impl.Image)) impl.Image {
	m = cloneImage(m)
	change(&m)
	return m
}

// clustersFrom are entries of clusters one behind the other.
func clustersFrom(first, count int) []int {
	var out []int
	for c := range count {
		out = append(out, 2+first+c)
	}
	return out
}

// usedUp has no cluster that no table has; the image's own ones are counted once.
func usedUp() impl.Image {
	return imageOf(clustersFrom(0, 12), clustersFrom(12, 12))
}

// usedUpBySnaps has none either; those of the image a snapshot has, too, one is a hole, one is zero, and one is its own.
func usedUpBySnaps() impl.Image {
	return imageOf([]int{0, 1, 2, 13, 25, 14}, clustersFrom(0, 12), append([]int{25, 1}, clustersFrom(13, 10)...))
}

// sharing has clusters that one, two, three and four tables have, in other places of each.
func sharing() impl.Image {
	return imageOf([]int{2, 0, 7, 9, 1, 25}, []int{0, 2, 9, 12}, []int{9, 2, 1, 0, 7, 3, 4}, []int{2, 3})
}

// randomImage takes any size, and any number of snapshots with tables that have each cluster once.
func randomImage(r *rand.Rand) impl.Image {
	var tables [][]int
	for range 1 + r.Intn(4) {
		table := make([]int, r.Intn(13))
		for g, c := range r.Perm(24)[:len(table)] {
			if table[g] = r.Intn(5); table[g] >= 2 {
				table[g] = 2 + c%(8+r.Intn(17))
			}
			if slices.Contains(table[:g], table[g]) && table[g] >= 2 {
				table[g] = 0
			}
		}
		tables = append(tables, table)
	}
	m := imageOf(tables[0], tables[1:]...)
	for c := range m.Data {
		if m.Refs[c] > 0 {
			m.Data[c] = []int{0, 1, mostNumber, r.Intn(1000)}[r.Intn(4)]
		}
	}
	return m
}

// exampleImages are right.
func exampleImages() []impl.Image {
	out := []impl.Image{imageOf(nil), imageOf(nil, nil), imageOf(nil, nil, nil, nil), usedUp(), usedUpBySnaps(), sharing()}
	for size := 1; size <= 12; size++ {
		out = append(out, imageOf(evenTable(size, 0)), imageOf(evenTable(size, 1)), imageOf(clustersFrom(0, size)), imageOf(clustersFrom(24-size, size)))
	}
	twelve := clustersFrom(3, 12)
	out = append(out,
		imageOf(twelve, twelve), imageOf(twelve, twelve, twelve), imageOf(twelve, twelve, twelve, twelve),
		imageOf(nil, twelve, clustersFrom(12, 12)), imageOf(evenTable(12, 1), twelve), imageOf([]int{25}, []int{0}, []int{1}, []int{2}),
		imageLike(sharing(), func(m *impl.Image) { m.Snaps[0].Name, m.Snaps[1].Name, m.Snaps[2].Name = "zzzzzz", "z", "azazaz" }),
		imageLike(sharing(), func(m *impl.Image) { m.Data[0], m.Data[5], m.Data[23] = 0, mostNumber, 1 }))
	r := rand.New(rand.NewSource(110))
	for range 60 {
		out = append(out, randomImage(r))
	}
	return out
}

type namedImage struct {
	name  string
	image impl.Image
}

// noSnapNames are at most as long as a text may be.
func noSnapNames() []string {
	out := []string{"", "sevenab", "A", "One", "oNe", "onE", "a1", "1", "a b", " a", "a ", "a\x00", "\x00", "a_b", "a-b", "a\n", "`", "{", "a`", "a{", "\u00e4", "a\u00e9", "\xff", "a\xe1"}
	for _, size := range []int{7, 8, 40, 255, 256, 256 + 6, 4097, impl.MaxText - 1, impl.MaxText} {
		out = append(out, strings.Repeat("a", size), strings.Repeat("A", size))
	}
	return out
}

// wrongImages are not right in one way each, the last ones in several.
func wrongImages() []namedImage {
	var out []namedImage
	add := func(name string, m impl.Image, change func(m *impl.Image)) {
		out = append(out, namedImage{name, imageLike(m, change)})
	}
	for _, c := range []int{0, 1, 5, 10, 11, 12, 23} {
		add("a count too great of "+strconv.Itoa(c), sharing(), func(m *impl.Image) { m.Refs[c]++ })
		add("a count too great of a full one's "+strconv.Itoa(c), usedUp(), func(m *impl.Image) { m.Refs[c]++ })
		add("a count too small of "+strconv.Itoa(c), usedUp(), func(m *impl.Image) { m.Refs[c]-- })
		add("a count below 0 of "+strconv.Itoa(c), imageOf(nil), func(m *impl.Image) { m.Refs[c] = -1 })
		for _, n := range []int{-1, 1<<31 + 1, 15, 16, 256, 1 << 31, 1 << 32, 1<<32 + 1, least, greatest} {
			add("another count of "+strconv.Itoa(c), usedUp(), func(m *impl.Image) { m.Refs[c] = n })
		}
		for _, n := range wrongNumbers() {
			add("no number in "+strconv.Itoa(c), usedUp(), func(m *impl.Image) { m.Data[c] = n })
		}
		for _, n := range []int{1, -1, 100, mostNumber, mostNumber + 1, least, greatest} {
			add("data of none at "+strconv.Itoa(c), imageOf([]int{0, 1}, []int{1}), func(m *impl.Image) { m.Data[c] = n })
		}
		add("a cluster twice, not counted, "+strconv.Itoa(c), imageOf([]int{2 + c, 0}), func(m *impl.Image) { m.Table[1] = 2 + c })
		add("a cluster twice, counted, "+strconv.Itoa(c), imageOf([]int{2 + c, 0}), func(m *impl.Image) { m.Table[1], m.Refs[c] = 2+c, 2 })
		add("a snapshot's twice, "+strconv.Itoa(c), imageOf(nil, nil, []int{2 + c, 2 + c}), func(m *impl.Image) { m.Refs[c] = 1 })
	}
	for i := range 4 {
		tables := slices.Insert([][]int{{0, 3}, {1, 3}, {3}}, i, []int{2, 1, 2})
		out = append(out, namedImage{"a cluster twice, counted, in table " + strconv.Itoa(i), imageOf(tables[0], tables[1:]...)})
	}
	for _, size := range []int{0, 1, 23, 25, 48, 4096, 4097} {
		list := make([]int, size)
		add("counts of another length", imageOf(nil), func(m *impl.Image) { m.Refs = list })
		add("data of another length", imageOf(nil), func(m *impl.Image) { m.Data = list })
	}
	add("counts cut", usedUp(), func(m *impl.Image) { m.Refs = m.Refs[:23] })
	add("data cut", usedUp(), func(m *impl.Image) { m.Data = m.Data[:23] })
	for _, table := range append(wrongTables(), evenTable(impl.MaxList+1, 0)) {
		add("no table", imageOf(nil, nil), func(m *impl.Image) { m.Table = table })
	}
	for _, table := range [][]int{evenTable(13, 0), evenTable(13, 1), evenTable(4097, 0), {-1}, {26}, {0, 0, greatest}, {least}} {
		for i := range 3 {
			add("no table of a snapshot", imageOf(nil, nil, nil, nil), func(m *impl.Image) { m.Snaps[i].Table = table })
		}
	}
	return append(out, wrongSnaps()...)
}

func wrongSnaps() []namedImage {
	var out []namedImage
	add := func(name string, m impl.Image, change func(m *impl.Image)) {
		out = append(out, namedImage{name, imageLike(m, change)})
	}
	out = append(out,
		namedImage{"four snapshots", imageOf(nil, nil, nil, nil, nil)},
		namedImage{"four snapshots with data", imageOf([]int{2}, []int{2}, []int{2}, []int{2}, []int{2})},
		namedImage{"4097 snapshots", imageOf(nil, make([][]int, 4097)...)})
	for i := range 3 {
		for _, name := range append(noSnapNames(), strings.Repeat("a", impl.MaxText+1)) {
			add("no name", sharing(), func(m *impl.Image) { m.Snaps[i].Name = name })
		}
		add("a name twice", sharing(), func(m *impl.Image) { m.Snaps[i].Name = m.Snaps[(i+1)%3].Name })
	}
	add("one name of all", imageOf(nil, nil, nil, nil), func(m *impl.Image) { m.Snaps[1].Name, m.Snaps[2].Name = "a", "a" })
	add("zero", imageOf(nil), func(m *impl.Image) { *m = impl.Image{} })
	add("empty lists", imageOf(nil), func(m *impl.Image) {
		*m = impl.Image{Refs: []int{}, Table: []int{}, Snaps: []impl.Snap{}, Data: []int{}}
	})
	add("all of it", imageOf(nil), func(m *impl.Image) {
		*m = impl.Image{Refs: []int{-1}, Table: []int{least}, Snaps: make([]impl.Snap, 4), Data: []int{greatest}}
	})
	return out
}

func wantImage(t *testing.T, where string, got impl.Image, code int, want impl.Image, wantCode int) {
	t.Helper()
	if !sameImage(got, want) || code != wantCode {
		t.Errorf("%s: code %d, not %d; tables %v, not %v; counts %v, not %v; data %v, not %v", where, code, wantCode, tablesIn(got), tablesIn(want), got.Refs, want.Refs, got.Data, want.Data)
	}
}

func wantNoImage(t *testing.T, where string, got impl.Image, code, wantCode int) {
	t.Helper()
	if !sameImage(got, impl.Image{}) || code != wantCode {
		t.Errorf("%s: code %d, not %d, with tables of %d", where, code, wantCode, len(got.Table))
	}
}

// wantShown asks each cluster of the guest's, and none beyond them.
func wantShown(t *testing.T, where string, m impl.Image, want []int) {
	t.Helper()
	if len(m.Table) != len(want) {
		t.Errorf("%s: %d clusters, not %d", where, len(m.Table), len(want))
		return
	}
	for g, n := range want {
		got, code := impl.ReadCluster(m, g)
		wantNumber(t, where+": ReadCluster "+strconv.Itoa(g), got, code, n, impl.OK)
	}
	got, code := impl.ReadCluster(m, len(want))
	wantNumber(t, where+": ReadCluster behind the end", got, code, 0, impl.ErrRange)
}

func TestP11ReckoningIsRight(t *testing.T) {
	for _, m := range exampleImages() {
		if !rightImage(m) {
			t.Error("an example is not right:", m)
		}
	}
	for _, w := range wrongImages() {
		if rightImage(w.image) {
			t.Error("a wrong one is right:", w.name)
		}
	}
}
