package tests

import (
	"strconv"
	"strings"
	"testing"

	"loop.example/g00456/impl"
)

// Promise 8, of what journals are made of: slots, updates and their texts.

// updateText, updateBy, rightUpdate and headText reckon as the document says, without the program.
func updateText(u impl.Update) string {
	return sealed(8, []int{u.At}) + u.Data
}

func updateBy(text string) (impl.Update, bool) {
	if len(text) < 8 {
		return impl.Update{}, false
	}
	kind, list, ok := opened(text[:8])
	if !ok || kind != 8 || len(list) != 1 {
		return impl.Update{}, false
	}
	u := impl.Update{At: list[0], Data: text[8:]}
	return u, rightUpdate(u)
}

func rightUpdate(u impl.Update) bool {
	return u.At >= 9 && u.At <= 38 && len(u.Data) <= 72
}

func headText(count, seq int) string {
	return sealed(7, []int{count, seq})
}

// edgeUpdates have the least, a middle and the greatest of each.
func edgeUpdates() []impl.Update {
	var out []impl.Update
	for _, at := range []int{9, 10, 20, 37, 38} {
		for _, data := range []string{"", "x", "\x00", "hello", "\xff\x00\n", strings.Repeat("y", 71), strings.Repeat("z", 72), strings.Repeat("\x00", 72)} {
			out = append(out, impl.Update{At: at, Data: data})
		}
		// Data may look like an update's text, or like a head.
		out = append(out, impl.Update{At: at, Data: updateText(impl.Update{At: 9, Data: "inner"})}, impl.Update{At: at, Data: headText(5, 7)})
	}
	return out
}

// wrongUpdates are not right in one way each, the last ones in two.
func wrongUpdates() []impl.Update {
	out := []impl.Update{{}}
	for _, at := range []int{8, 39, -1, 0, 63, 64, 9 + 256, 1<<32 + 9, -9, least, greatest} {
		out = append(out, impl.Update{At: at, Data: "x"}, impl.Update{At: at})
	}
	for _, n := range []int{73, 74, 80, 81, 256, impl.MaxText, impl.MaxText + 1} {
		out = append(out, impl.Update{At: 9, Data: strings.Repeat("x", n)}, impl.Update{At: 38, Data: strings.Repeat("x", n)})
	}
	return append(out, impl.Update{At: 8, Data: strings.Repeat("x", 73)}, impl.Update{At: greatest, Data: strings.Repeat("x", impl.MaxText+1)})
}

func TestP8Constants(t *testing.T) {
	if impl.MaxUpdates != 5 || impl.MoWrite != 1 || impl.MoFlush != 2 {
		t.Error(impl.MaxUpdates, impl.MoWrite, impl.MoFlush)
	}
}

func TestP8Slots(t *testing.T) {
	for host, want := range []int{39, 45, 51, 57} {
		if got, code := impl.SlotOf(host); got != want || code != impl.OK {
			t.Error("SlotOf", host, got, code)
		}
	}
	for _, host := range []int{-1, 4, 5, 256, 1 << 32, least, greatest} {
		if got, code := impl.SlotOf(host); got != 0 || code != impl.ErrRange {
			t.Error("SlotOf", host, got, code)
		}
	}
}

func TestP8UpdateTextByHand(t *testing.T) {
	// 9 + 2 * 2, bytes of 10 from place 3 on: 3 * 11 + 4 + 5 + 6, in all 61.
	want := "\x08\x01\x3d\x00\x0a\x00\x00\x00hi"
	u := impl.Update{At: 10, Data: "hi"}
	if text, code := impl.EncodeUpdate(u); text != want || code != impl.OK {
		t.Errorf("EncodeUpdate: %q %d", text, code)
	}
	if got, code := impl.DecodeUpdate(want); got != u || code != impl.OK {
		t.Error("DecodeUpdate", got, code)
	}
}

func TestP8UpdatesAreReadBack(t *testing.T) {
	for _, u := range edgeUpdates() {
		text, code := impl.EncodeUpdate(u)
		if text != updateText(u) || code != impl.OK || len(text) > 80 {
			t.Errorf("EncodeUpdate %v: %q %d", u, text, code)
		}
		if got, code := impl.DecodeUpdate(text); got != u || code != impl.OK {
			t.Errorf("DecodeUpdate %q: %v %d", text, got, code)
		}
	}
	for at := 9; at <= 38; at++ {
		for size := range 73 {
			u := impl.Update{At: at, Data: strings.Repeat("d", size)}
			text, code := impl.EncodeUpdate(u)
			got, code2 := impl.DecodeUpdate(text)
			if text != updateText(u) || got != u || code != impl.OK || code2 != impl.OK {
				t.Error("update", at, size, code, got, code2)
			}
		}
	}
}

func TestP8UpdatesThatAreNotRight(t *testing.T) {
	for _, u := range wrongUpdates() {
		text, code := impl.EncodeUpdate(u)
		wantNoText(t, "EncodeUpdate at "+strconv.Itoa(u.At), text, code, impl.ErrBad)
	}
}

func wantNoUpdate(t *testing.T, where string, u impl.Update, got, want int) {
	t.Helper()
	if u != (impl.Update{}) || got != want {
		t.Errorf("%s: %v with code %d, not %d", where, u, got, want)
	}
}

// noUpdateTexts are of at most 80 bytes, as a sector is.
func noUpdateTexts() []string {
	text := updateText(impl.Update{At: 10, Data: "hi"})
	out := []string{"", "update", "an update", "\x08", "\x08\x01\x3d\x00", text[1:], " " + text, text[8:], headText(1, 7), leaderText(impl.Leader{Ver: 4, Owner: 2, Gen: 7})}
	for end := range 8 {
		out = append(out, text[:end])
	}
	for kind := range 12 {
		if kind != 8 {
			out = append(out, sealed(kind, []int{10}), sealed(kind, []int{10})+"hi", sealed(kind, nil)+"\x0a\x00\x00\x00")
		}
	}
	for size := range 17 {
		if size != 1 {
			out = append(out, sealed(8, append([]int{10}, make([]int, 15)...)[:size]))
		}
	}
	for _, at := range []int{0, 1, 8, 39, 40, 63, 64, 255, 256, 265, mostNumber, 1 << 31, 1<<32 - 1} {
		out = append(out, sealed(8, []int{at}), sealed(8, []int{at})+"hi")
	}
	return out
}

func TestP8TextsThatAreNoUpdates(t *testing.T) {
	for _, text := range noUpdateTexts() {
		u, code := impl.DecodeUpdate(text)
		wantNoUpdate(t, "DecodeUpdate "+strconv.Quote(text), u, code, impl.ErrForm)
	}
	right := updateText(impl.Update{At: 10})
	for _, c := range []struct{ size, want int }{
		{81, impl.ErrForm}, {82, impl.ErrForm}, {4097, impl.ErrForm}, {impl.MaxText - 1, impl.ErrForm}, {impl.MaxText, impl.ErrForm},
		{impl.MaxText + 1, impl.ErrLong}, {impl.MaxText + 8, impl.ErrLong}, {3 * impl.MaxText, impl.ErrLong},
	} {
		for _, ahead := range []string{right, "no update"} {
			u, code := impl.DecodeUpdate(ahead + strings.Repeat("x", c.size-len(ahead)))
			wantNoUpdate(t, "DecodeUpdate of "+strconv.Itoa(c.size), u, code, c.want)
		}
	}
}

// Data has no sum: a text that is cut or drawn out within it is another update's.
func TestP8UpdateTextsThatAreCutOrDrawnOut(t *testing.T) {
	for _, u := range edgeUpdates() {
		text := updateText(u)
		for end := range len(text) {
			got, code := impl.DecodeUpdate(text[:end])
			if end < 8 {
				wantNoUpdate(t, "DecodeUpdate, cut", got, code, impl.ErrForm)
			} else if want := (impl.Update{At: u.At, Data: u.Data[:end-8]}); got != want || code != impl.OK {
				t.Errorf("DecodeUpdate %q: %v %d", text[:end], got, code)
			}
		}
		got, code := impl.DecodeUpdate(text + "\x00")
		if len(u.Data) == 72 {
			wantNoUpdate(t, "DecodeUpdate, drawn out", got, code, impl.ErrForm)
		} else if want := (impl.Update{At: u.At, Data: u.Data + "\x00"}); got != want || code != impl.OK {
			t.Errorf("DecodeUpdate %q: %v %d", text, got, code)
		}
	}
}

func TestP8UpdateTextsWithAByteChanged(t *testing.T) {
	for _, u := range []impl.Update{{At: 9}, {At: 38, Data: strings.Repeat("z", 72)}, {At: 10, Data: "hi"}, {At: 20, Data: "\x00\xff"}} {
		text := updateText(u)
		for at := range len(text) {
			for n := range 256 {
				changed := text[:at] + string([]byte{byte(n)}) + text[at+1:]
				want, ok := updateBy(changed)
				got, code := impl.DecodeUpdate(changed)
				if !ok {
					wantNoUpdate(t, "DecodeUpdate "+strconv.Quote(changed), got, code, impl.ErrForm)
				} else if got != want || code != impl.OK || at < 8 && byte(n) != text[at] {
					t.Errorf("DecodeUpdate %q: %v %d", changed, got, code)
				}
			}
		}
	}
}
