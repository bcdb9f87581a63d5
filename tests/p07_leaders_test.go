package tests

import (
	"strconv"
	"strings"
	"testing"

	"loop.example/g00456/impl"
)

// Promise 7, of what hosts write on the disk: leaders and their texts.

// leaderText, leaderBy and rightLeader reckon as the document says, without the program.
func leaderText(x impl.Leader) string {
	return sealed(6, []int{x.Ver, x.Owner + 1, x.Gen})
}

func leaderBy(text string) (impl.Leader, bool) {
	kind, list, ok := opened(text)
	if !ok || kind != 6 || len(list) != 3 {
		return impl.Leader{}, false
	}
	x := impl.Leader{Ver: list[0], Owner: list[1] - 1, Gen: list[2]}
	return x, rightLeader(x)
}

func rightLeader(x impl.Leader) bool {
	if x.Ver < 0 || x.Ver > 1000000 {
		return false
	}
	if x.Owner == -1 {
		return x.Gen == 0
	}
	return x.Ver > 0 && x.Owner >= 0 && x.Owner <= 3 && x.Gen >= 1 && x.Gen <= 1000000
}

// edgeLeaders have the least, a middle and the greatest of each number, and nobody.
func edgeLeaders() []impl.Leader {
	var out []impl.Leader
	for _, ver := range []int{0, 1, 500, 999999, 1000000} {
		out = append(out, impl.Leader{Ver: ver, Owner: -1})
		for _, owner := range []int{0, 1, 3} {
			for _, gen := range []int{1, 2, 999999, 1000000} {
				if ver > 0 {
					out = append(out, impl.Leader{Ver: ver, Owner: owner, Gen: gen})
				}
			}
		}
	}
	return out
}

// wrongLeaders are not right in one way each, the last ones in several.
func wrongLeaders() []impl.Leader {
	out := []impl.Leader{{}, {Gen: 1}, {Owner: 3, Gen: 1000000}, {Ver: 1}, {Ver: 1000000, Owner: 3}}
	for _, n := range []int{-1, 1000001, 1 << 32, 1<<32 + 1, least, greatest} {
		out = append(out, impl.Leader{Ver: n, Owner: 1, Gen: 5}, impl.Leader{Ver: n, Owner: -1})
		out = append(out, impl.Leader{Ver: 4, Owner: 1, Gen: n}, impl.Leader{Ver: 4, Owner: -1, Gen: n})
	}
	for _, n := range []int{1, 2, 1000000} {
		out = append(out, impl.Leader{Ver: 4, Owner: -1, Gen: n}, impl.Leader{Owner: -1, Gen: n})
	}
	for _, n := range []int{-2, 4, 5, 256, 1023, 1 << 32, 1<<32 - 1, least, greatest} {
		out = append(out, impl.Leader{Ver: 4, Owner: n, Gen: 5}, impl.Leader{Ver: 4, Owner: n}, impl.Leader{Owner: n})
	}
	for _, n := range []int{-2, 1000001, least, greatest} {
		out = append(out, impl.Leader{Ver: n, Owner: n, Gen: n})
	}
	return out
}

func TestP7WhichLeadersAreRight(t *testing.T) {
	for _, x := range edgeLeaders() {
		if !impl.LeaderOK(x) || !rightLeader(x) {
			t.Error("it is right:", x)
		}
	}
	for _, x := range wrongLeaders() {
		if impl.LeaderOK(x) || rightLeader(x) {
			t.Error("it is not right:", x)
		}
		text, code := impl.EncodeLeader(x)
		wantNoText(t, "EncodeLeader", text, code, impl.ErrBad)
	}
}

func TestP7LeaderTextByHand(t *testing.T) {
	// 7 + 2 * 4, bytes of 4, 3 and 258 from place 3 on: 3 * 5 + 4 + 5 + 6, 7 * 4 + 8 + 9 + 10, 11 * 3 + 12 * 2 + 13 + 14, in all 184.
	want := "\x06\x03\xb8\x00\x04\x00\x00\x00\x03\x00\x00\x00\x02\x01\x00\x00"
	x := impl.Leader{Ver: 4, Owner: 2, Gen: 258}
	if text, code := impl.EncodeLeader(x); text != want || code != impl.OK {
		t.Errorf("EncodeLeader: %q %d", text, code)
	}
	if got, code := impl.DecodeLeader(want); got != x || code != impl.OK {
		t.Error("DecodeLeader", got, code)
	}
	// Nobody, since version 9: 7 + 2 * 4 + 3 * 10 and the places from 4 to 14, in all 144.
	want = "\x06\x03\x90\x00\x09\x00\x00\x00\x00\x00\x00\x00\x00\x00\x00\x00"
	x = impl.Leader{Ver: 9, Owner: -1}
	if text, code := impl.EncodeLeader(x); text != want || code != impl.OK {
		t.Errorf("EncodeLeader: %q %d", text, code)
	}
	if got, code := impl.DecodeLeader(want); got != x || code != impl.OK {
		t.Error("DecodeLeader", got, code)
	}
}

func TestP7LeadersAreReadBack(t *testing.T) {
	for _, x := range edgeLeaders() {
		text, code := impl.EncodeLeader(x)
		if text != leaderText(x) || code != impl.OK {
			t.Errorf("EncodeLeader %v: %q %d", x, text, code)
		}
		if got, code := impl.DecodeLeader(text); got != x || code != impl.OK {
			t.Errorf("DecodeLeader %q: %v %d", text, got, code)
		}
	}
}

func wantNoLeader(t *testing.T, where string, x impl.Leader, got, want int) {
	t.Helper()
	if x != (impl.Leader{}) || got != want {
		t.Errorf("%s: %v with code %d, not %d", where, x, got, want)
	}
}

// noLeaderTexts are of at most 80 bytes, as a sector is.
func noLeaderTexts() []string {
	text := leaderText(impl.Leader{Ver: 4, Owner: 2, Gen: 7})
	out := []string{"", "leader", "\x06", text[:15], text[1:], text[:12], text + "\x00", text + text, " " + text}
	for kind := range 12 {
		if kind != 6 {
			out = append(out, sealed(kind, []int{4, 3, 7}))
		}
	}
	for size := range 17 {
		if size != 3 {
			out = append(out, sealed(6, append([]int{4, 3, 7}, make([]int, 13)...)[:size]))
		}
	}
	for _, list := range [][]int{
		{1000001, 3, 7}, {mostNumber, 3, 7}, {1 << 31, 3, 7}, {1000001, 0, 0}, {0, 3, 7}, {0, 1, 1},
		{4, 5, 7}, {4, 256, 7}, {4, mostNumber, 7}, {4, 1 << 31, 7}, {4, 5, 0},
		{4, 3, 0}, {4, 1, 0}, {4, 3, 1000001}, {4, 3, mostNumber}, {4, 3, 1 << 31},
		{4, 0, 1}, {4, 0, 1000000}, {0, 0, 1}, {4, 0, mostNumber},
	} {
		out = append(out, sealed(6, list))
	}
	return out
}

func TestP7LeaderTextsThatAreNone(t *testing.T) {
	for _, text := range noLeaderTexts() {
		x, code := impl.DecodeLeader(text)
		wantNoLeader(t, "DecodeLeader "+strconv.Quote(text), x, code, impl.ErrForm)
	}
	right := leaderText(impl.Leader{Ver: 4, Owner: 2, Gen: 7})
	for _, c := range []struct{ size, want int }{
		{17, impl.ErrForm}, {81, impl.ErrForm}, {4097, impl.ErrForm}, {impl.MaxText - 1, impl.ErrForm}, {impl.MaxText, impl.ErrForm},
		{impl.MaxText + 1, impl.ErrLong}, {impl.MaxText + 16, impl.ErrLong}, {3 * impl.MaxText, impl.ErrLong},
	} {
		x, code := impl.DecodeLeader(right + strings.Repeat("\x00", c.size-16))
		wantNoLeader(t, "DecodeLeader of "+strconv.Itoa(c.size), x, code, c.want)
	}
}

// A byte that is changed by 251 is not seen by the sum; what comes of it may be another right leader.
func TestP7LeaderTextsWithAByteChanged(t *testing.T) {
	for _, x := range []impl.Leader{{Owner: -1}, {Ver: 1000000, Owner: -1}, {Ver: 4, Owner: 2, Gen: 7}, {Ver: 1000000, Owner: 3, Gen: 1000000}, {Ver: 252, Gen: 253}} {
		text := leaderText(x)
		for at := range len(text) {
			for n := range 256 {
				changed := text[:at] + string([]byte{byte(n)}) + text[at+1:]
				want, ok := leaderBy(changed)
				got, code := impl.DecodeLeader(changed)
				if !ok {
					wantNoLeader(t, "DecodeLeader "+strconv.Quote(changed), got, code, impl.ErrForm)
				} else if got != want || code != impl.OK || at < 4 && byte(n) != text[at] {
					t.Errorf("DecodeLeader %q: %v %d", changed, got, code)
				}
			}
		}
	}
}
