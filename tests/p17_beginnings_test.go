package tests

import (
	"fmt"
	"math/rand"
	"slices"
	"strings"
	"testing"

	"loop.example/g00456/impl"
)

// Promise 17 itself: what is said to the first lines is the beginning of what is said to all of them, whatever the later ones are.

// lineLists are lists of right many lines, in which there is something to be said.
func lineLists() [][]string {
	out := [][]string{rightLines(), around("ticks 3"), oddLines(), usedUpLines()}
	for _, d := range dialogues() {
		out = append(out, d.lines)
	}
	for seed := range int64(12) {
		out = append(out, anyLines(rand.New(rand.NewSource(1710+seed)), 60))
	}
	return out
}

func TestP17WhatIsSaidToTheFirstLines(t *testing.T) {
	for i, lines := range lineLists() {
		whole, all := wantLines(t, fmt.Sprint("list ", i), lines)
		_, parts := linesRunBy(lines)
		told := ended(all)
		for k := range len(lines) + 1 {
			where := fmt.Sprint("list ", i, ", first ", k)
			_, said, code := impl.RunLines(lines[:k])
			wantOK(t, where, code)
			wantSaid(t, where, said, slices.Concat(parts[:k]...))
			if len(said) > len(all) || !slices.Equal(said, all[:len(said)]) {
				t.Errorf("%s: %q is no beginning of %q", where, said, all)
			}
			if text, code := impl.Console(ended(lines[:k])); code != impl.OK || !strings.HasPrefix(told, text) || text != ended(said) {
				t.Errorf("%s: Console %q with code %d", where, text, code)
			}
			if k == len(lines) && !slices.Equal(said, all) {
				t.Error(where, "is not all of it")
			}
		}
		if again, said, _ := impl.RunLines(lines); !alikeWorlds(again, whole) || !slices.Equal(said, all) {
			t.Error("list", i, "says something else the second time")
		}
		if t.Failed() {
			return
		}
	}
}

// Whatever stands behind the first lines, what is said to them is the same: others, none at all, or lines that are none.
func TestP17OtherLinesBehind(t *testing.T) {
	r := rand.New(rand.NewSource(171))
	behind := [][]string{nil, {"open 0"}, {"ticks 100000"}, {"close 0", "guest"}, {"go"}, {""}, {"#"}, {"crash 0 5 0 write 0 1", "ticks 60", "open 3"}, {strings.Repeat("x", impl.MaxText+1)}, {"\x00", "\n"}}
	for i, lines := range lineLists() {
		for range 6 {
			k := r.Intn(min(len(lines), 50) + 1)
			_, parts := linesRunBy(lines[:k])
			want := slices.Concat(parts...)
			for _, more := range behind {
				_, said, code := impl.RunLines(slices.Concat(lines[:k], more))
				if code != impl.OK || len(said) < len(want) || !slices.Equal(said[:len(want)], want) {
					t.Errorf("list %d, first %d, behind it %.60q: code %d, %q is no beginning of %q", i, k, more, code, want, said)
				}
			}
		}
	}
}

// The later lines go on from where the first ones led, wherever all of them are parted.
func TestP17LaterLinesGoOn(t *testing.T) {
	for i, lines := range lineLists() {
		var said []string
		w := plainWorldBy()
		for k, line := range lines {
			next, part := saidBy(w, line)
			got, all, code := impl.RunLines(lines[:k+1])
			wantWorld(t, fmt.Sprint("list ", i, ", first ", k+1), got, code, next, impl.OK)
			wantSaid(t, fmt.Sprint("list ", i, ", line ", k), all[min(len(said), len(all)):], part)
			w, said = next, append(said, part...)
			if t.Failed() {
				return
			}
		}
	}
}

// Lines that say nothing do nothing: the others say the same with them among them.
func TestP17LinesThatSayNothingAmongThem(t *testing.T) {
	r := rand.New(rand.NewSource(172))
	for i, lines := range lineLists() {
		lines = lines[:min(len(lines), 40)]
		want, said := wantLines(t, fmt.Sprint("list ", i), lines)
		for range 8 {
			more := slices.Clone(lines)
			for len(more) < 60 && r.Intn(30) > 0 {
				more = slices.Insert(more, r.Intn(len(more)+1), silentLines()[r.Intn(len(silentLines()))])
			}
			w, again, code := impl.RunLines(more)
			wantWorld(t, fmt.Sprintf("list %d as %q", i, more), w, code, want, impl.OK)
			wantSaid(t, fmt.Sprintf("list %d as %q", i, more), again, said)
			if len(ended(more)) <= impl.MaxText {
				wantConsole(t, fmt.Sprint("list ", i), ended(more), ended(said))
			}
		}
	}
}

// As many lines as it takes, and one more: those that say nothing are counted, too.
func TestP17HowManyLinesItTakes(t *testing.T) {
	for _, line := range []string{"", " ", "#", "go", "guest", "leader", "open 0", "ticks 1", "ticks 100000", "crash 0 1 1 list"} {
		for _, n := range []int{0, 1, 2, 59, 60} {
			wantLines(t, fmt.Sprintf("%d times %q", n, line), slices.Repeat([]string{line}, n))
		}
		for _, n := range []int{61, 62, 120, 255, 256, 300, impl.MaxList - 1, impl.MaxList} {
			wantNoLines(t, fmt.Sprintf("%d times %q", n, line), slices.Repeat([]string{line}, n), impl.ErrMany)
		}
		for _, n := range []int{impl.MaxList + 1, impl.MaxList + 61, 2 * impl.MaxList, 65537} {
			wantNoLines(t, fmt.Sprintf("%d times %q", n, line), slices.Repeat([]string{line}, n), impl.ErrLong)
		}
	}
	// One more, wherever it stands, and though it would say nothing.
	for _, lines := range [][]string{anyLines(rand.New(rand.NewSource(173)), 60), slices.Repeat([]string{"open 0", "close 0"}, 30)} {
		wantLines(t, "60", lines)
		for at := range 61 {
			for _, more := range []string{"", "#", "guest", "go"} {
				wantNoLines(t, "61", slices.Insert(slices.Clone(lines), at, more), impl.ErrMany)
				wantNoConsole(t, "61", ended(slices.Insert(slices.Clone(lines), at, more)), impl.ErrMany)
			}
		}
	}
}

func TestP17LongListsOfLongLines(t *testing.T) {
	long := strings.Repeat("x", impl.MaxText+1)
	wantNoLines(t, "61 long ones", slices.Repeat([]string{long}, 61), impl.ErrMany)
	wantNoLines(t, "too many long ones", slices.Repeat([]string{long}, impl.MaxList+1), impl.ErrLong)
	_, said, code := impl.RunLines(slices.Repeat([]string{long}, 60))
	wantOK(t, "60 long ones", code)
	wantSaid(t, "60 long ones", said, slices.Repeat([]string{"error form"}, 60))
}
