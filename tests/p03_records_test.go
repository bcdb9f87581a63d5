package tests

import (
	"encoding/binary"
	"math/rand"
	"slices"
	"strings"
	"testing"

	"loop.example/g00456/impl"
)

// Promise 3: numbers and records are read back.

const mostNumber = 2147483647

// packed, summed, sealed and opened reckon as the document says, without the program.
func packed(list []int) string {
	var out []byte
	for _, n := range list {
		out = binary.LittleEndian.AppendUint32(out, uint32(n))
	}
	return string(out)
}

func summed(t string) int {
	total := 0
	for i, b := range []byte(t) {
		total += (i + 1) * (int(b) + 1)
	}
	return total % 251
}

func sealed(kind int, list []int) string {
	head, body := string([]byte{byte(kind), byte(len(list))}), packed(list)
	return head + string([]byte{byte(summed(head + body)), 0}) + body
}

// opened seals what a text seems to say anew, and holds the two against each other.
func opened(t string) (kind int, list []int, ok bool) {
	if len(t) < 4 || len(t)%4 != 0 || len(t) > 68 || t[0] < 1 || t[0] > 9 {
		return 0, nil, false
	}
	for i := 4; i < len(t); i += 4 {
		n := binary.LittleEndian.Uint32([]byte(t[i:]))
		if n > mostNumber {
			return 0, nil, false
		}
		list = append(list, int(n))
	}
	return int(t[0]), list, sealed(int(t[0]), list) == t
}

// exampleLists are right: of every length, at the bounds of a number and of its bytes.
func exampleLists() [][]int {
	out := [][]int{nil, {}, {0}, {mostNumber}, {0, mostNumber}, {255, 256, 65535, 65536, 16777215, 16777216}, {1, 0x01020304, mostNumber - 1}, {128, 32768, 8388608}}
	r := rand.New(rand.NewSource(3))
	for n := 1; n <= 16; n++ {
		zeros, most, mixed := make([]int, n), make([]int, n), make([]int, n)
		for i := range n {
			most[i], mixed[i] = mostNumber, r.Intn(mostNumber+1)>>r.Intn(31)
		}
		out = append(out, zeros, most, mixed)
	}
	return out
}

// wrongNumbers are none.
func wrongNumbers() []int {
	return []int{-1, -2, 2147483648, 2147483649, -2147483648, 4294967295, 4294967296, 4294967297, 1 << 40, least, greatest}
}

func TestP3Constants(t *testing.T) {
	for i, kind := range []int{impl.ReSuper, impl.ReRefs, impl.ReMap, impl.ReData, impl.ReBlock, impl.ReLeader, impl.ReHead, impl.ReUpdate, impl.ReDelta} {
		if kind != i+1 {
			t.Error("kind", i+1, kind)
		}
	}
	if impl.MaxInts != 16 || impl.MaxInt-1 != mostNumber {
		t.Error(impl.MaxInts, impl.MaxInt)
	}
}

func TestP3NumbersArePackedLowestByteFirst(t *testing.T) {
	for _, c := range []struct {
		list []int
		want string
	}{
		{nil, ""},
		{[]int{}, ""},
		{[]int{0}, "\x00\x00\x00\x00"},
		{[]int{1}, "\x01\x00\x00\x00"},
		{[]int{256}, "\x00\x01\x00\x00"},
		{[]int{65536}, "\x00\x00\x01\x00"},
		{[]int{16777216}, "\x00\x00\x00\x01"},
		{[]int{mostNumber}, "\xff\xff\xff\x7f"},
		{[]int{0x01020304, 7, mostNumber - 1}, "\x04\x03\x02\x01\x07\x00\x00\x00\xfe\xff\xff\x7f"},
		{make([]int, 16), strings.Repeat("\x00", 64)},
	} {
		if got, code := impl.PackInts(c.list); got != c.want || code != impl.OK {
			t.Errorf("PackInts %v: %q %d", c.list, got, code)
		}
	}
}

func TestP3NumbersAreReadBack(t *testing.T) {
	for _, list := range exampleLists() {
		text, code := impl.PackInts(list)
		if text != packed(list) || code != impl.OK {
			t.Errorf("PackInts %v: %q %d", list, text, code)
		}
		if got, code := impl.UnpackInts(text); !slices.Equal(got, list) || code != impl.OK {
			t.Errorf("UnpackInts %q: %v %d", text, got, code)
		}
	}
}

func wantNoText(t *testing.T, where string, text string, got, want int) {
	t.Helper()
	if text != "" || got != want {
		t.Errorf("%s: %q with code %d, not %d", where, text, got, want)
	}
}

func wantNoList(t *testing.T, where string, list []int, got, want int) {
	t.Helper()
	if len(list) != 0 || got != want {
		t.Errorf("%s: %v with code %d, not %d", where, list, got, want)
	}
}

func TestP3WrongNumbersAreNotPacked(t *testing.T) {
	for _, n := range wrongNumbers() {
		for _, size := range []int{1, 2, 16} {
			for at := range size {
				list := make([]int, size)
				list[at] = n
				text, code := impl.PackInts(list)
				wantNoText(t, "PackInts", text, code, impl.ErrRange)
				for _, kind := range []int{1, 9, 0, 10} {
					text, code = impl.SealRecord(kind, list)
					wantNoText(t, "SealRecord", text, code, impl.ErrRange)
				}
			}
		}
	}
}

func TestP3ListsThatAreTooLong(t *testing.T) {
	for _, size := range []int{17, 18, 255, 256, 257, 272, impl.MaxList - 1, impl.MaxList, impl.MaxList + 1, 2 * impl.MaxList} {
		want := impl.ErrRange
		if size > impl.MaxList {
			want = impl.ErrLong
		}
		right, wrong := make([]int, size), make([]int, size)
		wrong[0], wrong[size-1] = -1, greatest
		for _, list := range [][]int{right, wrong} {
			text, code := impl.PackInts(list)
			wantNoText(t, "PackInts", text, code, want)
			for _, kind := range []int{1, 9, 0, 10, least, greatest} {
				text, code = impl.SealRecord(kind, list)
				wantNoText(t, "SealRecord", text, code, want)
			}
		}
	}
}

func TestP3TextsThatAreNoNumbers(t *testing.T) {
	for size := range 300 {
		list, code := impl.UnpackInts(strings.Repeat("\x00", size))
		if size%4 == 0 && size <= 64 {
			if len(list) != size/4 || code != impl.OK {
				t.Error("UnpackInts of", size, "bytes", list, code)
			}
		} else {
			wantNoList(t, "UnpackInts", list, code, impl.ErrForm)
		}
	}
	for _, size := range []int{4096, impl.MaxText - 1, impl.MaxText} {
		list, code := impl.UnpackInts(strings.Repeat("\x01", size))
		wantNoList(t, "UnpackInts", list, code, impl.ErrForm)
	}
	for _, size := range []int{impl.MaxText + 1, impl.MaxText + 4, 3 * impl.MaxText} {
		list, code := impl.UnpackInts(strings.Repeat("\x01", size))
		wantNoList(t, "UnpackInts", list, code, impl.ErrLong)
	}
}

func TestP3FourBytesThatAreNoNumber(t *testing.T) {
	for top := range 256 {
		four := string([]byte{1, 2, 3, byte(top)})
		list, code := impl.UnpackInts(four)
		if top < 128 {
			if !slices.Equal(list, []int{top<<24 | 0x030201}) || code != impl.OK {
				t.Error("UnpackInts", top, list, code)
			}
			continue
		}
		wantNoList(t, "UnpackInts", list, code, impl.ErrForm)
		for ahead := range 16 {
			zeros := strings.Repeat("\x00", 60)
			list, code = impl.UnpackInts(zeros[:4*ahead] + four + zeros[4*ahead:])
			wantNoList(t, "UnpackInts", list, code, impl.ErrForm)
		}
	}
}

func TestP3SumOf(t *testing.T) {
	zeros := strings.Repeat("\x00", 3*impl.MaxText)
	for _, c := range []struct {
		text string
		want int
	}{
		{"", 0},
		{"\x00", 1},
		{"\x01", 2},
		{"\xf9", 250},
		{"\xfa", 0},
		{"\xfb", 1},
		{"\xff", 5},
		{"\x00\x00\x00", 6},        // 1 + 2 + 3
		{"\x01\x02\x03", 20},       // 2 + 2 * 3 + 3 * 4
		{"\x03\x02\x01", 16},       // 4 + 2 * 3 + 3 * 2
		{"ab", 45},                 // 98 + 2 * 99 = 251 + 45
		{"ba", 44},                 // 99 + 2 * 98 = 251 + 44
		{"\xff\xff", 15},           // 256 + 2 * 256 = 3 * 251 + 15
		{"\x09\x01\xff\xff", 49},   // 10 + 4 + 768 + 1024 = 7 * 251 + 49
		{zeros[:22], 2},            // 22 * 23 / 2 = 251 + 2
		{zeros[:250], 0},           // 250 * 251 / 2
		{zeros[:252], 1},           // 252 * 253 / 2 = 127 * 251 + 1
		{zeros[:impl.MaxText], 74}, // 32768 * 65537, which are 138 and 26, and 138 * 26 = 14 * 251 + 74
		{zeros[:impl.MaxText+1], 0},
		{zeros[:impl.MaxText+4], 0},
		{zeros, 0},
	} {
		if got := impl.SumOf(c.text); got != c.want {
			t.Errorf("SumOf %.20q of %d bytes: %d, not %d", c.text, len(c.text), got, c.want)
		}
	}
	r := rand.New(rand.NewSource(4))
	for range 200 {
		text := make([]byte, r.Intn(600))
		r.Read(text)
		if got := impl.SumOf(string(text)); got != summed(string(text)) {
			t.Errorf("SumOf %q: %d, not %d", text, got, summed(string(text)))
		}
	}
}

func TestP3RecordsByHand(t *testing.T) {
	for _, c := range []struct {
		kind int
		list []int
		want string
	}{
		{impl.ReSuper, nil, "\x01\x00\x04\x00"},                                        // 2 + 2 * 1
		{impl.ReDelta, []int{}, "\x09\x00\x0c\x00"},                                    // 10 + 2 * 1
		{impl.ReMap, []int{0}, "\x03\x01\x1a\x00\x00\x00\x00\x00"},                     // 4 + 2 * 2 + 3 + 4 + 5 + 6
		{impl.ReData, []int{7}, "\x04\x01\x30\x00\x07\x00\x00\x00"},                    // 5 + 2 * 2 + 3 * 8 + 4 + 5 + 6
		{impl.ReLeader, []int{mostNumber}, "\x06\x01\x56\x00\xff\xff\xff\x7f"},         // 7 + 4 + 768 + 1024 + 1280 + 768 = 3851 = 15 * 251 + 86
		{impl.ReHead, []int{2, 3}, "\x07\x02\x5d\x00\x02\x00\x00\x00\x03\x00\x00\x00"}, // 8 + 6 + 9 + 4 + 5 + 6 + 28 + 8 + 9 + 10
	} {
		if got, code := impl.SealRecord(c.kind, c.list); got != c.want || code != impl.OK {
			t.Errorf("SealRecord %d %v: %q %d", c.kind, c.list, got, code)
		}
		if got, code := impl.OpenRecord(c.want, c.kind); !slices.Equal(got, c.list) || code != impl.OK {
			t.Errorf("OpenRecord %q: %v %d", c.want, got, code)
		}
		if got, code := impl.KindOf(c.want); got != c.kind || code != impl.OK {
			t.Errorf("KindOf %q: %d %d", c.want, got, code)
		}
	}
}

func TestP3RecordsAreReadBack(t *testing.T) {
	for kind := 1; kind <= 9; kind++ {
		for _, list := range exampleLists() {
			text, code := impl.SealRecord(kind, list)
			if text != sealed(kind, list) || code != impl.OK {
				t.Errorf("SealRecord %d %v: %q %d", kind, list, text, code)
			}
			if got, code := impl.KindOf(text); got != kind || code != impl.OK {
				t.Errorf("KindOf %q: %d %d", text, got, code)
			}
			for other := 1; other <= 9; other++ {
				got, code := impl.OpenRecord(text, other)
				if other != kind {
					wantNoList(t, "OpenRecord of another kind", got, code, impl.ErrForm)
				} else if !slices.Equal(got, list) || code != impl.OK {
					t.Errorf("OpenRecord %q: %v %d", text, got, code)
				}
			}
		}
	}
}

func TestP3KindsThatAreNone(t *testing.T) {
	long := strings.Repeat("\x01", impl.MaxText+1)
	for _, kind := range []int{0, 10, -1, 11, 255, 256, 257, 265, 1<<32 + 1, least, greatest} {
		for _, list := range [][]int{nil, {7}, make([]int, 16)} {
			text, code := impl.SealRecord(kind, list)
			wantNoText(t, "SealRecord", text, code, impl.ErrRange)
			for _, t2 := range []string{sealed(kind, list), sealed(9, list), sealed(1, list)[1:], ""} {
				got, code := impl.OpenRecord(t2, kind)
				wantNoList(t, "OpenRecord", got, code, impl.ErrRange)
			}
		}
		got, code := impl.OpenRecord(long, kind)
		wantNoList(t, "OpenRecord", got, code, impl.ErrLong)
		got, code = impl.OpenRecord(long[1:], kind)
		wantNoList(t, "OpenRecord", got, code, impl.ErrRange)
	}
	for _, kind := range []int{0, 10, 11, 128, 255} {
		for _, list := range [][]int{nil, {7}, make([]int, 16)} {
			wantNoRecord(t, sealed(kind, list), impl.ErrForm)
		}
	}
}

// wantNoRecord asks of every kind.
func wantNoRecord(t *testing.T, text string, want int) {
	t.Helper()
	if kind, code := impl.KindOf(text); kind != 0 || code != want {
		t.Errorf("KindOf %.80q: %d with code %d, not %d", text, kind, code, want)
	}
	for kind := 1; kind <= 9; kind++ {
		if list, code := impl.OpenRecord(text, kind); len(list) != 0 || code != want {
			t.Errorf("OpenRecord %.80q of %d: %v with code %d, not %d", text, kind, list, code, want)
		}
	}
}

func TestP3TextsThatAreNoRecords(t *testing.T) {
	for _, text := range []string{"", "\x01", "\x01\x00", "\x01\x00\x04", "\x00\x00\x00\x00", "record", "\x01\x00\x04\x00\x00"} {
		wantNoRecord(t, text, impl.ErrForm)
	}
	for _, size := range []int{69, 71, 72, 4096, impl.MaxText - 1, impl.MaxText} {
		wantNoRecord(t, sealed(4, make([]int, 16))+strings.Repeat("\x00", size-68), impl.ErrForm)
	}
	for _, size := range []int{impl.MaxText + 1, impl.MaxText + 4, 2 * impl.MaxText} {
		wantNoRecord(t, sealed(4, make([]int, 16))+strings.Repeat("\x00", size-68), impl.ErrLong)
	}
	for _, size := range []int{17, 18, 100, 254, 255} {
		wantNoRecord(t, sealed(4, make([]int, size)), impl.ErrForm)
	}
	for _, wrong := range []int{2147483648, 2147483649, 4294967295} {
		for at := range 16 {
			list := make([]int, 16)
			list[at] = wrong
			wantNoRecord(t, sealed(4, list), impl.ErrForm)
			wantNoRecord(t, sealed(9, list[:at+1]), impl.ErrForm)
		}
	}
}

func TestP3RecordsThatAreCutOrDrawnOut(t *testing.T) {
	for kind := 1; kind <= 9; kind++ {
		for _, list := range exampleLists() {
			text := sealed(kind, list)
			for end := range len(text) {
				wantNoRecord(t, text[:end], impl.ErrForm)
			}
			for _, more := range []string{"\x00", "\x01", "\xff", "\x00\x00\x00\x00", text} {
				wantNoRecord(t, text+more, impl.ErrForm)
			}
		}
	}
}

// A byte may be changed by 251 unseen, as the sum is reckoned: what comes of it is another record.
func TestP3RecordsWithAByteChanged(t *testing.T) {
	unseen := 0
	for _, text := range []string{sealed(1, nil), sealed(9, nil), sealed(4, []int{7}), sealed(6, []int{mostNumber}), sealed(8, exampleLists()[5]), sealed(3, make([]int, 16))} {
		for at := range len(text) {
			for b := range 256 {
				if byte(b) == text[at] {
					continue
				}
				changed := text[:at] + string([]byte{byte(b)}) + text[at+1:]
				kind, list, ok := opened(changed)
				if ok && (at < 4 || (b-int(text[at]))%251 != 0) {
					t.Fatalf("the test reckons wrong: %q", changed)
				}
				if !ok {
					wantNoRecord(t, changed, impl.ErrForm)
					continue
				}
				unseen++
				if got, code := impl.OpenRecord(changed, kind); !slices.Equal(got, list) || code != impl.OK {
					t.Errorf("OpenRecord %q: %v %d", changed, got, code)
				}
			}
		}
	}
	if unseen == 0 {
		t.Error("no byte was changed by 251")
	}
}

func TestP3RandomTextsAgreeWithTheDocument(t *testing.T) {
	r := rand.New(rand.NewSource(5))
	right := 0
	for range 20000 {
		list := make([]int, r.Intn(19))
		for i := range list {
			list[i] = r.Intn(mostNumber+1) >> r.Intn(31)
		}
		text := []byte(sealed(r.Intn(12), list))
		if r.Intn(2) == 0 {
			text[r.Intn(len(text))] ^= byte(1 << r.Intn(8))
		}
		kind, list, ok := opened(string(text))
		if !ok {
			wantNoRecord(t, string(text), impl.ErrForm)
			continue
		}
		right++
		got, code := impl.OpenRecord(string(text), kind)
		if told, code2 := impl.KindOf(string(text)); told != kind || code2 != impl.OK || !slices.Equal(got, list) || code != impl.OK {
			t.Errorf("%q: kind %d %d, numbers %v %d", text, told, code2, got, code)
		}
	}
	if right < 5000 || right > 15000 {
		t.Error("too few texts of one sort:", right)
	}
}
