package tests

import (
	"math/rand"
	"slices"
	"strconv"
	"strings"
	"testing"

	"loop.example/g00456/impl"
)

// Promise 10: tables are read back.

// tableBy, rightTable, entryBy and clustersBy reckon as the document says, without the program.
func tableBy(text string) ([]int, bool) {
	kind, list, ok := opened(text)
	if !ok || kind != 3 || !rightTable(list) {
		return nil, false
	}
	return list, true
}

func rightTable(table []int) bool {
	return len(table) <= 12 && !slices.ContainsFunc(table, func(n int) bool { return n < 0 || n > 25 })
}

func entryBy(n int) (kind, cluster int) {
	switch n {
	case 0, 1:
		return n, 0
	}
	return 2, n - 2
}

func clustersBy(table []int) []int {
	data := slices.DeleteFunc(slices.Clone(table), func(n int) bool { return n < 2 })
	for i := range data {
		data[i] -= 2
	}
	return data
}

func evenTable(size, entry int) []int {
	return slices.Repeat([]int{entry}, size)
}

// tableWith has one entry among others that are all alike.
func tableWith(size, others, g, entry int) []int {
	table := evenTable(size, others)
	table[g] = entry
	return table
}

// exampleTables are right, of every length: all entries alike, each entry in each place, one cluster twice, and any.
func exampleTables() [][]int {
	out := [][]int{nil, {}, {2, 2}, {25, 0, 25}, {0, 1, 2, 25}}
	for entry := range 26 {
		for size := 1; size <= 12; size++ {
			out = append(out, evenTable(size, entry))
		}
		for g := range 12 {
			out = append(out, tableWith(12, 0, g, entry), tableWith(12, 1, g, entry), tableWith(12, 13, g, entry), tableWith(g+1, 25, g, entry))
		}
	}
	r := rand.New(rand.NewSource(10))
	for i := range 240 {
		table := make([]int, i%12+1)
		for g := range table {
			table[g] = r.Intn(26) / (1 + 8*r.Intn(2))
		}
		out = append(out, table)
	}
	return append(out, []int{2, 3, 4, 5, 6, 7, 8, 9, 10, 11, 12, 13}, []int{25, 24, 23, 22, 21, 20, 19, 18, 17, 16, 15, 14})
}

func noEntries() []int {
	return []int{-1, 26, -2, 27, 28, 255, 256, 257, mostNumber, 1 << 31, 1 << 32, 1<<32 + 1, least, least + 1, greatest}
}

// wrongTables are not right in one way each, the last ones in several; none is longer than a list may be.
func wrongTables() [][]int {
	var out [][]int
	for _, size := range []int{13, 14, 16, 17, 24, 255, 256, 256 + 12, impl.MaxList - 1, impl.MaxList} {
		out = append(out, evenTable(size, 0), evenTable(size, 1), evenTable(size, 25))
	}
	for _, entry := range noEntries() {
		for _, others := range []int{0, 1, 25} {
			for size := 1; size <= 12; size++ {
				out = append(out, tableWith(size, others, 0, entry), tableWith(size, others, size/2, entry), tableWith(size, others, size-1, entry))
			}
		}
		out = append(out, evenTable(12, entry))
	}
	return append(out, evenTable(13, -1), evenTable(13, 26), []int{least, greatest}, evenTable(impl.MaxList, greatest))
}

// longTables are longer than a list may be, with right entries and wrong ones.
func longTables() [][]int {
	var out [][]int
	for _, size := range []int{impl.MaxList + 1, impl.MaxList + 12, 3 * impl.MaxList} {
		for _, entry := range []int{0, 1, 25, -1, 26, greatest} {
			out = append(out, evenTable(size, entry))
		}
	}
	return out
}

func noSizes() []int {
	return []int{-1, 13, -12, 14, 24, 255, 256, 1 << 31, 1 << 32, 1<<32 + 1, least, least + 1, greatest}
}

// noPlaces are of no table's entry.
func noPlaces(table []int) []int {
	return append(noSizes(), len(table), len(table)+1, -len(table)-1, 12)
}

func wantEntry(t *testing.T, where string, table []int, g, wantKind, wantCluster, wantCode int) {
	t.Helper()
	kind, cluster, code := impl.EntryOf(table, g)
	if kind != wantKind || cluster != wantCluster || code != wantCode {
		t.Errorf("EntryOf, %s, at %d of %d: %d and %d with code %d, not %d and %d with code %d", where, g, len(table), kind, cluster, code, wantKind, wantCluster, wantCode)
	}
}

func TestP10Constants(t *testing.T) {
	if impl.MaxGuest != 12 || impl.EnHole != 0 || impl.EnZero != 1 || impl.EnData != 2 {
		t.Error(impl.MaxGuest, impl.EnHole, impl.EnZero, impl.EnData)
	}
}

func TestP10WhichTablesAreRight(t *testing.T) {
	for _, table := range exampleTables() {
		if !impl.TableOK(table) || !rightTable(table) {
			t.Error("it is right:", table)
		}
	}
	for _, table := range slices.Concat(wrongTables(), longTables()) {
		if impl.TableOK(table) || rightTable(table) {
			t.Error("it is not right:", len(table), table[:min(len(table), 13)])
		}
	}
}

func TestP10RecordByHand(t *testing.T) {
	for _, c := range []struct {
		table []int
		want  string
	}{
		{nil, "\x03\x00\x06\x00"},                                          // 4 + 2 * 1
		{[]int{0}, "\x03\x01\x1a\x00\x00\x00\x00\x00"},                     // 4 + 2 * 2 + 3 + 4 + 5 + 6
		{[]int{1, 25}, "\x03\x02\xf0\x00\x01\x00\x00\x00\x19\x00\x00\x00"}, // 4 + 2 * 3 + 3 * 2 + 4 + 5 + 6 + 7 * 26 + 8 + 9 + 10
	} {
		text, code := impl.EncodeTable(c.table)
		if text != c.want || code != impl.OK {
			t.Errorf("EncodeTable %v: %q %d", c.table, text, code)
		}
		got, code := impl.DecodeTable(c.want)
		wantRefs(t, "DecodeTable", got, code, c.table, impl.OK)
	}
}

func TestP10TablesAreReadBack(t *testing.T) {
	for _, table := range exampleTables() {
		text, code := impl.EncodeTable(table)
		if text != sealed(3, table) || code != impl.OK || len(text) > impl.SectorSize-8 {
			t.Errorf("EncodeTable %v: %q %d", table, text, code)
		}
		got, code := impl.DecodeTable(text)
		wantRefs(t, "DecodeTable", got, code, table, impl.OK)
	}
}

// The record tells no two tables alike, also not those that have more holes at their end.
func TestP10RecordsAreAnotherOnesEach(t *testing.T) {
	seen := map[string][]int{}
	for _, table := range exampleTables() {
		text, _ := impl.EncodeTable(table)
		if other, ok := seen[text]; ok && !slices.Equal(other, table) {
			t.Error("one record of both:", table, other)
		}
		seen[text] = table
	}
}

func TestP10EntriesByHand(t *testing.T) {
	table := []int{0, 1, 2, 3, 24, 25, 0, 1, 1, 0, 2, 25}
	for g, want := range [][2]int{{0, 0}, {1, 0}, {2, 0}, {2, 1}, {2, 22}, {2, 23}, {0, 0}, {1, 0}, {1, 0}, {0, 0}, {2, 0}, {2, 23}} {
		wantEntry(t, "by hand", table, g, want[0], want[1], impl.OK)
	}
}

func TestP10EntriesAreTold(t *testing.T) {
	for _, table := range exampleTables() {
		for g, n := range table {
			kind, cluster := entryBy(n)
			wantEntry(t, "right", table, g, kind, cluster, impl.OK)
		}
		for _, g := range noPlaces(table) {
			wantEntry(t, "no such place", table, g, 0, 0, impl.ErrRange)
		}
	}
}

// Sizes above what there was give holes behind it, sizes below its beginning, its own size itself.
func TestP10TablesThatAreResized(t *testing.T) {
	for _, table := range exampleTables() {
		for size := range 13 {
			want := slices.Concat(table, make([]int, 12))[:size]
			got, code := impl.ResizeTable(table, size)
			wantRefs(t, "ResizeTable", got, code, want, impl.OK)
			for g := len(table); g < size; g++ {
				wantEntry(t, "behind what there was", got, g, impl.EnHole, 0, impl.OK)
			}
		}
		for _, size := range noSizes() {
			got, code := impl.ResizeTable(table, size)
			wantNoList(t, "ResizeTable", got, code, impl.ErrRange)
		}
	}
}

// What was cut off does not come back: neither from the table's own memory, nor from what stands behind its end.
func TestP10WhatIsCutOffIsAHole(t *testing.T) {
	for _, table := range exampleTables() {
		for size := range len(table) {
			short, code := impl.ResizeTable(table, size)
			wantRefs(t, "ResizeTable, shorter", short, code, table[:size], impl.OK)
			want := slices.Concat(table[:size], make([]int, 12-size))
			long, code := impl.ResizeTable(short, 12)
			wantRefs(t, "ResizeTable, longer again", long, code, want, impl.OK)
			long, code = impl.ResizeTable(table[:size], 12)
			wantRefs(t, "ResizeTable of a beginning", long, code, want, impl.OK)
		}
	}
}

func TestP10ClustersOfData(t *testing.T) {
	for _, c := range []struct{ table, want []int }{
		{nil, nil},
		{[]int{}, nil},
		{evenTable(12, impl.EnHole), nil},
		{evenTable(12, impl.EnZero), nil},
		{[]int{2}, []int{0}},
		{[]int{25}, []int{23}},
		{[]int{0, 1, 2, 25}, []int{0, 23}},
		{[]int{25, 1, 0, 2}, []int{23, 0}},
		{[]int{9, 0, 4, 1, 9}, []int{7, 2, 7}},
		{[]int{13, 12, 11, 10, 9, 8, 7, 6, 5, 4, 3, 2}, []int{11, 10, 9, 8, 7, 6, 5, 4, 3, 2, 1, 0}},
	} {
		got, code := impl.ClustersOf(c.table)
		wantRefs(t, "ClustersOf", got, code, c.want, impl.OK)
	}
	for _, table := range exampleTables() {
		got, code := impl.ClustersOf(table)
		wantRefs(t, "ClustersOf", got, code, clustersBy(table), impl.OK)
	}
}

// wantNoTable asks all calls on tables, also with places and sizes that are none: what is wrong with the table is told first.
func wantNoTable(t *testing.T, table []int, want int) {
	t.Helper()
	text, code := impl.EncodeTable(table)
	wantNoText(t, "EncodeTable", text, code, want)
	list, code := impl.ClustersOf(table)
	wantNoList(t, "ClustersOf", list, code, want)
	for _, n := range append(noPlaces(table), 0, 1, 11, len(table)-1) {
		wantEntry(t, "no right table", table, n, 0, 0, want)
		list, code = impl.ResizeTable(table, n)
		wantNoList(t, "ResizeTable", list, code, want)
	}
}

func TestP10TablesThatAreNotRight(t *testing.T) {
	for _, table := range wrongTables() {
		wantNoTable(t, table, impl.ErrBad)
	}
	for _, table := range longTables() {
		wantNoTable(t, table, impl.ErrLong)
	}
}

// noTableTexts are of at most 80 bytes, as a sector is.
func noTableTexts() []string {
	list := []int{0, 1, 2, 25}
	text := sealed(3, list)
	out := []string{"", "table", "\x03", text[1:], text[4:], text + "\x00", text + text, " " + text, packed(list)}
	for end := range len(text) {
		out = append(out, text[:end])
	}
	for kind := range 12 {
		if kind != 3 {
			out = append(out, sealed(kind, list), sealed(kind, nil), sealed(kind, make([]int, 12)))
		}
	}
	for size := 13; size <= 17; size++ {
		out = append(out, sealed(3, make([]int, size)), sealed(3, evenTable(size, 25)), sealed(3, evenTable(size, 26)))
	}
	for _, n := range []int{26, 27, 28, 255, 256, 1 << 16, 1 << 24, mostNumber, 1 << 31, 1<<32 - 1} {
		for size := 1; size <= 12; size++ {
			for g := range size {
				out = append(out, sealed(3, tableWith(size, 0, g, n)), sealed(3, tableWith(size, 25, g, n)))
			}
		}
	}
	return out
}

func TestP10TextsThatAreNoTables(t *testing.T) {
	for _, text := range noTableTexts() {
		list, code := impl.DecodeTable(text)
		wantNoList(t, "DecodeTable "+strconv.Quote(text), list, code, impl.ErrForm)
	}
	right := sealed(3, evenTable(12, 25))
	for _, c := range []struct{ size, want int }{
		{53, impl.ErrForm}, {56, impl.ErrForm}, {80, impl.ErrForm}, {81, impl.ErrForm}, {4097, impl.ErrForm}, {impl.MaxText - 1, impl.ErrForm}, {impl.MaxText, impl.ErrForm},
		{impl.MaxText + 1, impl.ErrLong}, {impl.MaxText + 52, impl.ErrLong}, {3 * impl.MaxText, impl.ErrLong},
	} {
		for _, ahead := range []string{right, "no table"} {
			list, code := impl.DecodeTable(ahead + strings.Repeat("\x00", c.size-len(ahead)))
			wantNoList(t, "DecodeTable of "+strconv.Itoa(c.size), list, code, c.want)
		}
	}
}

func TestP10RecordsThatAreCutOrDrawnOut(t *testing.T) {
	for _, table := range exampleTables() {
		text := sealed(3, table)
		for end := range len(text) {
			list, code := impl.DecodeTable(text[:end])
			wantNoList(t, "DecodeTable, cut", list, code, impl.ErrForm)
		}
		for _, more := range []string{"\x00", "\x01", "\xff", "\x00\x00\x00\x00", text} {
			list, code := impl.DecodeTable(text + more)
			wantNoList(t, "DecodeTable, drawn out", list, code, impl.ErrForm)
		}
	}
}

// A byte that is changed by 251 is not seen by the sum, but what comes of it is no entry.
func TestP10RecordsWithAByteChanged(t *testing.T) {
	for _, table := range [][]int{nil, {0}, {1}, {25}, {0, 1, 2, 25}, evenTable(12, 0), evenTable(12, 25), tableWith(12, 1, 11, 25)} {
		text := sealed(3, table)
		for at := range len(text) {
			for n := range 256 {
				changed := text[:at] + string([]byte{byte(n)}) + text[at+1:]
				_, ok := tableBy(changed)
				got, code := impl.DecodeTable(changed)
				if ok != (changed == text) {
					t.Fatalf("the test reckons wrong: %q", changed)
				}
				if !ok {
					wantNoList(t, "DecodeTable "+strconv.Quote(changed), got, code, impl.ErrForm)
				}
			}
		}
	}
}

// Records with two bytes changed: some of them are other right tables, and are read as these.
func TestP10RandomRecordsAgreeWithTheDocument(t *testing.T) {
	r := rand.New(rand.NewSource(11))
	right, other := 0, 0
	for range 20000 {
		list := make([]int, r.Intn(15))
		for i := range list {
			list[i] = r.Intn(27)
		}
		text := []byte(sealed(3, list))
		if len(list) > 0 {
			text[4+4*r.Intn(len(list))] += byte(r.Intn(2))
			text[2] += byte(r.Intn(2) * r.Intn(251))
		}
		want, ok := tableBy(string(text))
		got, code := impl.DecodeTable(string(text))
		if !ok {
			wantNoList(t, "DecodeTable "+strconv.Quote(string(text)), got, code, impl.ErrForm)
			continue
		}
		right++
		if !slices.Equal(want, list) {
			other++
		}
		wantRefs(t, "DecodeTable", got, code, want, impl.OK)
	}
	if right < 2000 || right > 18000 || other == 0 {
		t.Error("too few texts of one sort:", right, other)
	}
}
