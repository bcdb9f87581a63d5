package tests

import (
	"math/rand"
	"slices"
	"strconv"
	"strings"
	"testing"

	"loop.example/g00456/impl"
)

// Promise 9: counts are read back; one up and one down is nothing.

// refsText, refsBy and rightRefs reckon as the document says, without the program: a number's six counts are its digits in base 16, written from the last one to the first.
func refsText(refs []int) string {
	var list []int
	for six := range slices.Chunk(refs, 6) {
		n := 0
		for _, count := range slices.Backward(six) {
			n = 16*n + count
		}
		list = append(list, n)
	}
	return sealed(2, list)
}

func refsBy(text string) ([]int, bool) {
	kind, list, ok := opened(text)
	if !ok || kind != 2 || len(list) != 4 {
		return nil, false
	}
	var refs []int
	for _, n := range list {
		if n >= 16*16*16*16*16*16 {
			return nil, false
		}
		for range 6 {
			refs = append(refs, n%16)
			n /= 16
		}
	}
	return refs, true
}

func rightRefs(refs []int) bool {
	return len(refs) == 24 && slices.Min(refs) >= 0 && slices.Max(refs) <= 15
}

func evenRefs(count int) []int {
	return slices.Repeat([]int{count}, 24)
}

// refsWith has one count among others that are all alike.
func refsWith(others, c, count int) []int {
	refs := evenRefs(others)
	refs[c] = count
	return refs
}

// exampleRefs are right: all counts alike, each cluster alone with each count, and any.
func exampleRefs() [][]int {
	var out [][]int
	for count := range 16 {
		out = append(out, evenRefs(count))
		for c := range 24 {
			out = append(out, refsWith(0, c, count), refsWith(15, c, count), refsWith(7, c, count))
		}
	}
	r := rand.New(rand.NewSource(9))
	for range 100 {
		refs := make([]int, 24)
		for c := range refs {
			refs[c] = r.Intn(16)
		}
		out = append(out, refs)
	}
	return append(out, []int{0, 1, 2, 3, 4, 5, 6, 7, 8, 9, 10, 11, 12, 13, 14, 15, 14, 13, 12, 11, 10, 9, 8, 7})
}

// wrongRefs are not right in one way each, the last ones in several; none is longer than a list may be.
func wrongRefs() [][]int {
	out := [][]int{nil, {}}
	for _, size := range []int{1, 4, 6, 12, 23, 25, 26, 48, 255, 256, 24 + 256, impl.MaxList - 1, impl.MaxList} {
		out = append(out, make([]int, size), slices.Repeat([]int{15}, size))
	}
	for _, count := range []int{-1, 16, -15, 17, 255, 256, 1 << 24, mostNumber, 1 << 32, 1<<32 + 1, least, greatest} {
		for _, others := range []int{0, 3, 15} {
			for _, c := range []int{0, 1, 5, 6, 12, 22, 23} {
				out = append(out, refsWith(others, c, count))
			}
		}
		out = append(out, evenRefs(count))
	}
	return append(out, slices.Repeat([]int{-1}, 23), slices.Repeat([]int{16}, 25), append(evenRefs(least), greatest))
}

// longRefs are longer than a list may be, right counts and wrong ones.
func longRefs() [][]int {
	var out [][]int
	for _, size := range []int{impl.MaxList + 1, impl.MaxList + 24, 3 * impl.MaxList} {
		out = append(out, make([]int, size), slices.Repeat([]int{1}, size), slices.Repeat([]int{-1}, size), slices.Repeat([]int{greatest}, size))
	}
	return out
}

func noClusters() []int {
	return []int{-1, 24, -24, 25, 255, 256, 1 << 31, 1 << 32, 1<<32 + 1, least, least + 1, greatest}
}

func wantRefs(t *testing.T, where string, got []int, code int, want []int, wantCode int) {
	t.Helper()
	if !slices.Equal(got, want) || code != wantCode {
		t.Errorf("%s: %v with code %d, not %v with code %d", where, got, code, want, wantCode)
	}
}

func TestP9Constants(t *testing.T) {
	if impl.Clusters != 24 {
		t.Error(impl.Clusters)
	}
}

func TestP9WhichCountsAreRight(t *testing.T) {
	for _, refs := range exampleRefs() {
		if !impl.RefsOK(refs) || !rightRefs(refs) {
			t.Error("they are right:", refs)
		}
	}
	for _, refs := range slices.Concat(wrongRefs(), longRefs()) {
		if impl.RefsOK(refs) || rightRefs(refs) {
			t.Error("they are not right:", len(refs), refs[:min(len(refs), 24)])
		}
	}
}

func TestP9RecordByHand(t *testing.T) {
	refs := make([]int, 24)
	refs[0], refs[1], refs[5], refs[6], refs[17], refs[23] = 1, 2, 3, 4, 5, 15
	// 0x300021, 4, 0x500000, 0xf00000: 3 + 2 * 5, then from place 3 on 3 * 34 + 4 + 5 * 49 + 6, 7 * 5 + 8 + 9 + 10, 11 + 12 + 13 * 81 + 14, 15 + 16 + 17 * 241 + 18; in all 5668, which is 22 * 251 and 146.
	want := "\x02\x04\x92\x00\x21\x00\x30\x00\x04\x00\x00\x00\x00\x00\x50\x00\x00\x00\xf0\x00"
	if text, code := impl.EncodeRefs(refs); text != want || code != impl.OK {
		t.Errorf("EncodeRefs: %q %d", text, code)
	}
	got, code := impl.DecodeRefs(want)
	wantRefs(t, "DecodeRefs", got, code, refs, impl.OK)
}

func TestP9CountsAreReadBack(t *testing.T) {
	for _, refs := range exampleRefs() {
		text, code := impl.EncodeRefs(refs)
		if text != refsText(refs) || code != impl.OK || len(text) > impl.SectorSize {
			t.Errorf("EncodeRefs %v: %q %d", refs, text, code)
		}
		got, code := impl.DecodeRefs(text)
		wantRefs(t, "DecodeRefs", got, code, refs, impl.OK)
	}
}

// The record tells no two lists of counts alike.
func TestP9RecordsAreAnotherOnesEach(t *testing.T) {
	seen := map[string][]int{}
	for _, refs := range exampleRefs() {
		text, _ := impl.EncodeRefs(refs)
		if other, ok := seen[text]; ok && !slices.Equal(other, refs) {
			t.Error("one record of both:", refs, other)
		}
		seen[text] = refs
	}
}

func TestP9OneUpAndOneDownIsNothing(t *testing.T) {
	for _, refs := range exampleRefs() {
		for c := range 24 {
			up, code := impl.RefUp(refs, c)
			if refs[c] == 15 {
				wantRefs(t, "RefUp of 15", up, code, refs, impl.ErrMany)
			} else {
				more := slices.Clone(refs)
				more[c]++
				wantRefs(t, "RefUp", up, code, more, impl.OK)
				back, code := impl.RefDown(up, c)
				wantRefs(t, "RefDown behind RefUp", back, code, refs, impl.OK)
			}
			down, code := impl.RefDown(refs, c)
			if refs[c] == 0 {
				wantRefs(t, "RefDown of 0", down, code, refs, impl.ErrNone)
			} else {
				less := slices.Clone(refs)
				less[c]--
				wantRefs(t, "RefDown", down, code, less, impl.OK)
				back, code := impl.RefUp(down, c)
				wantRefs(t, "RefUp behind RefDown", back, code, refs, impl.OK)
			}
		}
	}
}

// Of each cluster all the way from 0 to the greatest count and back, and once beyond at both ends.
func TestP9AllTheWayUpAndDown(t *testing.T) {
	for _, others := range []int{0, 8, 15} {
		for c := range 24 {
			refs, code := refsWith(others, c, 0), impl.OK
			for count := 1; count <= 15; count++ {
				refs, code = impl.RefUp(refs, c)
				wantRefs(t, "RefUp", refs, code, refsWith(others, c, count), impl.OK)
			}
			for range 2 {
				refs, code = impl.RefUp(refs, c)
				wantRefs(t, "RefUp beyond", refs, code, refsWith(others, c, 15), impl.ErrMany)
			}
			for count := 14; count >= 0; count-- {
				refs, code = impl.RefDown(refs, c)
				wantRefs(t, "RefDown", refs, code, refsWith(others, c, count), impl.OK)
			}
			for range 2 {
				refs, code = impl.RefDown(refs, c)
				wantRefs(t, "RefDown beyond", refs, code, refsWith(others, c, 0), impl.ErrNone)
			}
		}
	}
}

func TestP9TheFirstClusterWithNought(t *testing.T) {
	for _, others := range []int{1, 14, 15} {
		n, code := impl.FreeCluster(evenRefs(others))
		wantNumber(t, "FreeCluster of none", n, code, 0, impl.ErrFull)
		for c := range 24 {
			refs := refsWith(others, c, 0)
			n, code = impl.FreeCluster(refs)
			wantNumber(t, "FreeCluster of one", n, code, c, impl.OK)
			for behind := c; behind < 24; behind++ {
				refs[behind] = 0
				n, code = impl.FreeCluster(refs)
				wantNumber(t, "FreeCluster of several", n, code, c, impl.OK)
			}
		}
	}
	for _, refs := range exampleRefs() {
		want, wantCode := slices.Index(refs, 0), impl.OK
		if want < 0 {
			want, wantCode = 0, impl.ErrFull
		}
		n, code := impl.FreeCluster(refs)
		wantNumber(t, "FreeCluster", n, code, want, wantCode)
	}
}

func TestP9Sums(t *testing.T) {
	for count := range 16 {
		n, code := impl.RefSum(evenRefs(count))
		wantNumber(t, "RefSum of one count", n, code, 24*count, impl.OK)
	}
	n, code := impl.RefSum(evenRefs(15))
	wantNumber(t, "the greatest sum", n, code, 360, impl.OK)
	for _, refs := range exampleRefs() {
		want := 0
		for _, count := range refs {
			want += count
		}
		n, code := impl.RefSum(refs)
		wantNumber(t, "RefSum", n, code, want, impl.OK)
		for c := range 24 {
			if up, code := impl.RefUp(refs, c); code == impl.OK {
				n, code = impl.RefSum(up)
				wantNumber(t, "RefSum of one more", n, code, want+1, impl.OK)
			}
		}
	}
}

// wantNoCounts asks all calls on counts, also with clusters that are none: what is wrong with the counts is told first.
func wantNoCounts(t *testing.T, refs []int, want int) {
	t.Helper()
	text, code := impl.EncodeRefs(refs)
	wantNoText(t, "EncodeRefs", text, code, want)
	n, code := impl.FreeCluster(refs)
	wantNumber(t, "FreeCluster", n, code, 0, want)
	n, code = impl.RefSum(refs)
	wantNumber(t, "RefSum", n, code, 0, want)
	for _, c := range append(noClusters(), 0, 1, 5, 6, 12, 22, 23) {
		list, code := impl.RefUp(refs, c)
		wantNoList(t, "RefUp", list, code, want)
		list, code = impl.RefDown(refs, c)
		wantNoList(t, "RefDown", list, code, want)
	}
}

func TestP9CountsThatAreNotRight(t *testing.T) {
	for _, refs := range wrongRefs() {
		wantNoCounts(t, refs, impl.ErrBad)
	}
	for _, refs := range longRefs() {
		wantNoCounts(t, refs, impl.ErrLong)
	}
}

// A cluster that is none is told, whatever is counted.
func TestP9ClustersThatAreNone(t *testing.T) {
	for _, refs := range exampleRefs() {
		for _, c := range noClusters() {
			list, code := impl.RefUp(refs, c)
			wantNoList(t, "RefUp", list, code, impl.ErrRange)
			list, code = impl.RefDown(refs, c)
			wantNoList(t, "RefDown", list, code, impl.ErrRange)
		}
	}
}

// noRefsTexts are of at most 80 bytes, as a sector is.
func noRefsTexts() []string {
	list := []int{1, 2, 3, 4}
	text := sealed(2, list)
	out := []string{"", "counts", "\x02", text[1:], text[4:], text + "\x00", text + text, " " + text, packed(list)}
	for end := range len(text) {
		out = append(out, text[:end])
	}
	for kind := range 12 {
		if kind != 2 {
			out = append(out, sealed(kind, list), sealed(kind, make([]int, 4)))
		}
	}
	for size := range 17 {
		if size != 4 {
			out = append(out, sealed(2, append([]int{1, 2, 3, 4}, make([]int, 12)...)[:size]), sealed(2, make([]int, size)))
		}
	}
	for _, n := range []int{1 << 24, 1<<24 + 1, 1 << 25, 1 << 28, 1 << 30, mostNumber, 1 << 31, 1<<32 - 1} {
		for at := range 4 {
			for _, others := range []int{0, 5, 1<<24 - 1} {
				list := []int{others, others, others, others}
				list[at] = n
				out = append(out, sealed(2, list))
			}
		}
	}
	return out
}

func TestP9TextsThatAreNoCounts(t *testing.T) {
	for _, text := range noRefsTexts() {
		list, code := impl.DecodeRefs(text)
		wantNoList(t, "DecodeRefs "+strconv.Quote(text), list, code, impl.ErrForm)
	}
	right := refsText(evenRefs(15))
	for _, c := range []struct{ size, want int }{
		{21, impl.ErrForm}, {24, impl.ErrForm}, {80, impl.ErrForm}, {81, impl.ErrForm}, {4097, impl.ErrForm}, {impl.MaxText - 1, impl.ErrForm}, {impl.MaxText, impl.ErrForm},
		{impl.MaxText + 1, impl.ErrLong}, {impl.MaxText + 20, impl.ErrLong}, {3 * impl.MaxText, impl.ErrLong},
	} {
		for _, ahead := range []string{right, "no counts"} {
			list, code := impl.DecodeRefs(ahead + strings.Repeat("\x00", c.size-len(ahead)))
			wantNoList(t, "DecodeRefs of "+strconv.Itoa(c.size), list, code, c.want)
		}
	}
}

func TestP9RecordsThatAreCutOrDrawnOut(t *testing.T) {
	for _, refs := range exampleRefs() {
		text := refsText(refs)
		for end := range len(text) {
			list, code := impl.DecodeRefs(text[:end])
			wantNoList(t, "DecodeRefs, cut", list, code, impl.ErrForm)
		}
		for _, more := range []string{"\x00", "\x01", "\xff", "\x00\x00\x00\x00", text} {
			list, code := impl.DecodeRefs(text + more)
			wantNoList(t, "DecodeRefs, drawn out", list, code, impl.ErrForm)
		}
	}
}

// A byte that is changed by 251 is not seen by the sum; what comes of it may be other right counts.
func TestP9RecordsWithAByteChanged(t *testing.T) {
	for _, refs := range [][]int{evenRefs(0), evenRefs(1), evenRefs(15), exampleRefs()[len(exampleRefs())-1], refsWith(0, 5, 15), refsWith(0, 23, 15)} {
		text := refsText(refs)
		for at := range len(text) {
			for n := range 256 {
				changed := text[:at] + string([]byte{byte(n)}) + text[at+1:]
				want, ok := refsBy(changed)
				got, code := impl.DecodeRefs(changed)
				if !ok {
					wantNoList(t, "DecodeRefs "+strconv.Quote(changed), got, code, impl.ErrForm)
				} else if !slices.Equal(got, want) || code != impl.OK || at < 4 && byte(n) != text[at] {
					t.Errorf("DecodeRefs %q: %v %d", changed, got, code)
				}
			}
		}
	}
}
