package tests

import (
	"strconv"
	"strings"
	"testing"

	"loop.example/g00456/impl"
)

// Promise 6, of what hosts write on the disk: blocks and their texts.

// blockText, blockBy and rightBlock reckon as the document says, without the program.
func blockText(b impl.Block) string {
	return sealed(5, []int{b.Ver, b.Mbal, b.Bal, b.Inp})
}

func blockBy(text string) (impl.Block, bool) {
	kind, list, ok := opened(text)
	if !ok || kind != 5 || len(list) != 4 {
		return impl.Block{}, false
	}
	b := impl.Block{Ver: list[0], Mbal: list[1], Bal: list[2], Inp: list[3]}
	return b, rightBlock(b)
}

func rightBlock(b impl.Block) bool {
	if b.Bal == 0 && b.Inp != 0 {
		return false
	}
	return b.Ver >= 0 && b.Ver <= 1000000 && b.Mbal >= 0 && b.Mbal <= 1000000 && b.Bal >= 0 && b.Bal <= b.Mbal && b.Inp >= 0 && b.Inp <= mostNumber
}

// edgeBlocks have the least, a middle and the greatest of each number.
func edgeBlocks() []impl.Block {
	var out []impl.Block
	for _, ver := range []int{0, 1, 500, 999999, 1000000} {
		for _, mbal := range []int{0, 1, 2, 999999, 1000000} {
			out = append(out, impl.Block{Ver: ver, Mbal: mbal})
			for _, bal := range []int{1, mbal - 1, mbal} {
				for _, inp := range []int{0, 1, 77, mostNumber - 1, mostNumber} {
					if bal > 0 && bal <= mbal {
						out = append(out, impl.Block{Ver: ver, Mbal: mbal, Bal: bal, Inp: inp})
					}
				}
			}
		}
	}
	return out
}

// wrongBlocks are not right in one way each, the last ones in several.
func wrongBlocks() []impl.Block {
	var out []impl.Block
	for _, n := range []int{-1, 1000001, 1 << 32, least, greatest} {
		out = append(out, impl.Block{Ver: n, Mbal: 9, Bal: 5, Inp: 7}, impl.Block{Ver: 1, Mbal: n}, impl.Block{Ver: 1, Mbal: n, Bal: 1, Inp: 7})
	}
	for _, n := range []int{-1, 10, 11, 1000000, 1000001, 1<<32 + 5, least, greatest} {
		out = append(out, impl.Block{Ver: 1, Mbal: 9, Bal: n, Inp: 7}, impl.Block{Ver: 1, Mbal: 9, Bal: n})
	}
	for _, n := range append(wrongNumbers(), 1, 7, mostNumber) {
		out = append(out, impl.Block{Ver: 1, Mbal: 9, Inp: n}, impl.Block{Inp: n})
	}
	for _, n := range wrongNumbers() {
		out = append(out, impl.Block{Ver: 1, Mbal: 9, Bal: 5, Inp: n}, impl.Block{Ver: n, Mbal: n, Bal: n, Inp: n})
	}
	return append(out, impl.Block{Bal: 1}, impl.Block{Bal: 1, Inp: 1}, impl.Block{Ver: 1000001, Mbal: 1, Bal: 2, Inp: -1})
}

func TestP6WhichBlocksAreRight(t *testing.T) {
	for _, b := range edgeBlocks() {
		if !impl.BlockOK(b) || !rightBlock(b) {
			t.Error("it is right:", b)
		}
	}
	for _, b := range wrongBlocks() {
		if impl.BlockOK(b) || rightBlock(b) {
			t.Error("it is not right:", b)
		}
		text, code := impl.EncodeBlock(b)
		wantNoText(t, "EncodeBlock", text, code, impl.ErrBad)
	}
}

func TestP6BlockTextByHand(t *testing.T) {
	// 6 + 2 * 5, bytes of 1, 258, 5 and 77 from place 3 on: 3 * 2 + 4 + 5 + 6, 7 * 3 + 8 * 2 + 9 + 10, 11 * 6 + 12 + 13 + 14, 15 * 78 + 16 + 17 + 18, in all 1419, which is 5 * 251 and 164.
	want := "\x05\x04\xa4\x00\x01\x00\x00\x00\x02\x01\x00\x00\x05\x00\x00\x00\x4d\x00\x00\x00"
	b := impl.Block{Ver: 1, Mbal: 258, Bal: 5, Inp: 77}
	if text, code := impl.EncodeBlock(b); text != want || code != impl.OK {
		t.Errorf("EncodeBlock: %q %d", text, code)
	}
	if got, code := impl.DecodeBlock(want); got != b || code != impl.OK {
		t.Error("DecodeBlock", got, code)
	}
}

func TestP6BlocksAreReadBack(t *testing.T) {
	for _, b := range edgeBlocks() {
		text, code := impl.EncodeBlock(b)
		if text != blockText(b) || code != impl.OK {
			t.Errorf("EncodeBlock %v: %q %d", b, text, code)
		}
		if got, code := impl.DecodeBlock(text); got != b || code != impl.OK {
			t.Errorf("DecodeBlock %q: %v %d", text, got, code)
		}
	}
}

func wantNoBlock(t *testing.T, where string, b impl.Block, got, want int) {
	t.Helper()
	if b != (impl.Block{}) || got != want {
		t.Errorf("%s: %v with code %d, not %d", where, b, got, want)
	}
}

// noBlockTexts are of at most 80 bytes, as a sector is.
func noBlockTexts() []string {
	text := blockText(impl.Block{Ver: 1, Mbal: 9, Bal: 5, Inp: 7})
	out := []string{"", "block", "\x05", text[:19], text[1:], text[:16], text + "\x00", text + text, " " + text}
	for kind := range 12 {
		if kind != 5 {
			out = append(out, sealed(kind, []int{1, 9, 5, 7}))
		}
	}
	for size := range 17 {
		if size != 4 {
			out = append(out, sealed(5, append([]int{1, 9, 5, 7}, make([]int, 12)...)[:size]))
		}
	}
	for _, list := range [][]int{
		{1000001, 9, 5, 7}, {mostNumber, 9, 5, 7}, {1 << 31, 9, 5, 7},
		{1, 1000001, 5, 7}, {1, mostNumber, 5, 7}, {1, 1 << 31, 5, 7},
		{1, 9, 10, 7}, {1, 0, 1, 7}, {1, 1000000, 1000001, 7}, {1, 9, mostNumber, 7}, {1, 9, 1 << 31, 7},
		{1, 9, 0, 7}, {0, 0, 0, 1}, {0, 0, 0, mostNumber}, {1, 9, 5, 1 << 31},
	} {
		out = append(out, sealed(5, list))
	}
	return out
}

func TestP6BlockTextsThatAreNone(t *testing.T) {
	for _, text := range noBlockTexts() {
		b, code := impl.DecodeBlock(text)
		wantNoBlock(t, "DecodeBlock "+strconv.Quote(text), b, code, impl.ErrForm)
	}
	right := blockText(impl.Block{Ver: 1, Mbal: 9, Bal: 5, Inp: 7})
	for _, c := range []struct{ size, want int }{
		{21, impl.ErrForm}, {81, impl.ErrForm}, {4097, impl.ErrForm}, {impl.MaxText - 1, impl.ErrForm}, {impl.MaxText, impl.ErrForm},
		{impl.MaxText + 1, impl.ErrLong}, {impl.MaxText + 20, impl.ErrLong}, {3 * impl.MaxText, impl.ErrLong},
	} {
		b, code := impl.DecodeBlock(right + strings.Repeat("\x00", c.size-20))
		wantNoBlock(t, "DecodeBlock of "+strconv.Itoa(c.size), b, code, c.want)
	}
}

// A byte that is changed by 251 is not seen by the sum; what comes of it may be another right block.
func TestP6BlockTextsWithAByteChanged(t *testing.T) {
	for _, b := range []impl.Block{{}, {Ver: 1, Mbal: 9, Bal: 5, Inp: 77}, {Ver: 1000000, Mbal: 1000000, Bal: 1000000, Inp: mostNumber}, {Ver: 252, Mbal: 255, Bal: 253, Inp: 254}} {
		text := blockText(b)
		for at := range len(text) {
			for n := range 256 {
				changed := text[:at] + string([]byte{byte(n)}) + text[at+1:]
				want, ok := blockBy(changed)
				got, code := impl.DecodeBlock(changed)
				if !ok {
					wantNoBlock(t, "DecodeBlock "+strconv.Quote(changed), got, code, impl.ErrForm)
				} else if got != want || code != impl.OK || at < 4 && byte(n) != text[at] {
					t.Errorf("DecodeBlock %q: %v %d", changed, got, code)
				}
			}
		}
	}
}
