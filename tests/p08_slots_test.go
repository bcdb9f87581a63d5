package tests

import (
	"math/rand"
	"slices"
	"strconv"
	"strings"
	"testing"

	"loop.example/g00456/impl"
)

// Promise 8, of what waits in slots: heads and updates read back, and replays planned of them.

// headBy and journalBy reckon as the document says, without the program.
func headBy(text string) (count, seq int, ok bool) {
	if text == "" {
		return 0, 0, true
	}
	kind, list, ok := opened(text)
	if !ok || kind != 7 || len(list) != 2 || list[0] > 5 {
		return 0, 0, false
	}
	return list[0], list[1], true
}

func journalBy(d impl.Disk, host, of int) ([]impl.Update, int, bool) {
	count, seq, ok := headBy(readBy(d, host, 39+6*of))
	if !ok {
		return nil, 0, false
	}
	var list []impl.Update
	for i := range count {
		u, ok := updateBy(readBy(d, host, 40+6*of+i))
		if !ok {
			return nil, 0, false
		}
		list = append(list, u)
	}
	return list, seq, true
}

// wantWaiting asks a host for what waits in a slot, and for the plan to apply it.
func wantWaiting(t *testing.T, where string, d impl.Disk, host, of int, list []impl.Update, seq int) {
	t.Helper()
	got, n, code := impl.JournalOf(d, host, of)
	if !slices.Equal(got, list) || n != seq || code != impl.OK {
		t.Errorf("%s: JournalOf %d by %d: %v number %d code %d, not %v number %d", where, of, host, got, n, code, list, seq)
	}
	plan, code := impl.ReplayPlan(d, host, of)
	if !slices.Equal(plan, applyBy(of, seq, list)) || code != impl.OK {
		t.Errorf("%s: ReplayPlan %d by %d: %v code %d", where, of, host, plan, code)
	}
}

func wantNoJournal(t *testing.T, where string, d impl.Disk, host, of, want int) {
	t.Helper()
	list, seq, code := impl.JournalOf(d, host, of)
	if len(list) != 0 || seq != 0 || code != want {
		t.Errorf("%s: JournalOf %d by %d: %v number %d code %d, not %d", where, of, host, list, seq, code, want)
	}
	plan, code := impl.ReplayPlan(d, host, of)
	wantNoMoves(t, where+": ReplayPlan", plan, code, want)
}

// waiting is d with a slot in which count of the list's updates wait; the others' texts stand behind them.
func waiting(d impl.Disk, of, count, seq int, list []impl.Update) impl.Disk {
	d = cloneDisk(d)
	d.Sectors[39+6*of] = headText(count, seq)
	for i, u := range list {
		d.Sectors[40+6*of+i] = updateText(u)
	}
	return d
}

func TestP8NothingWaitsOnANewDisk(t *testing.T) {
	for host := range 4 {
		for of := range 4 {
			wantWaiting(t, "new disk", impl.NewDisk(), host, of, nil, 0)
		}
	}
}

func TestP8WhatWaitsIsReadBack(t *testing.T) {
	edges := edgeUpdates()
	for of := range 4 {
		for count := range 6 {
			for _, seq := range []int{0, 1, 7, mostNumber - 1, mostNumber} {
				for from := 0; from+5 <= len(edges); from += 5 {
					list := edges[from : from+5]
					// Elder texts that stand behind what waits are not told.
					d := waiting(emptyDisk(), of, count, seq, list)
					for host := range 4 {
						wantWaiting(t, "waits", d, host, of, list[:count], seq)
						wantWaiting(t, "another slot", d, host, (of+1)%4, nil, 0)
					}
				}
			}
		}
	}
}

func TestP8SeveralOfTheSamePlaceWait(t *testing.T) {
	for size := range 6 {
		d := waiting(emptyDisk(), 1, size, 9, listOf(size, true))
		for host := range 4 {
			wantWaiting(t, "same place", d, host, 1, listOf(size, true), 9)
		}
	}
}

func TestP8SlotsStandSideBySide(t *testing.T) {
	d := emptyDisk()
	for of := range 4 {
		d = waiting(d, of, of+2, 100+of, listOf(of+2, false))
	}
	for host := range 4 {
		for of := range 4 {
			wantWaiting(t, "side by side", d, host, of, listOf(of+2, false), 100+of)
		}
	}
}

// A host reads its own writes that are not sure, others what is sure, in heads and in updates.
func TestP8WhatWaitsAsAHostReadsIt(t *testing.T) {
	for of := range 4 {
		for own := range 4 {
			d := waiting(emptyDisk(), of, 1, 3, listOf(2, false))
			d.Pending = []impl.Io{
				{Host: own, At: 40 + 6*of, Data: "hidden by what comes behind it"},
				{Host: own, At: 39 + 6*of, Data: headText(2, 4)},
				{Host: own, At: 40 + 6*of, Data: updateText(impl.Update{At: 30, Data: "unsure"})},
			}
			for host := range 4 {
				if host == own {
					wantWaiting(t, "its own", d, host, of, []impl.Update{{At: 30, Data: "unsure"}, listOf(2, false)[1]}, 4)
				} else {
					wantWaiting(t, "another's", d, host, of, listOf(1, false), 3)
				}
			}
			d.Pending = []impl.Io{{Host: own, At: 39 + 6*of, Data: ""}}
			wantWaiting(t, "its own empty head", d, own, of, nil, 0)
			d.Pending = []impl.Io{{Host: own, At: 39 + 6*of, Data: "broken"}}
			wantNoJournal(t, "its own head", d, own, of, impl.ErrBroken)
			d.Pending = []impl.Io{{Host: own, At: 40 + 6*of, Data: ""}}
			wantNoJournal(t, "its own update", d, own, of, impl.ErrBroken)
			wantWaiting(t, "another's broken one", d, (own+1)%4, of, listOf(1, false), 3)
		}
	}
}

// noHeads are of at most 80 bytes, and none of them is empty.
func noHeads() []string {
	text := headText(2, 7)
	out := []string{"head", "\x00", " ", "\x07", text[1:], " " + text, text + "\x00", text + text, updateText(listOf(1, false)[0]), strings.Repeat("\x00", 80)}
	for end := 1; end < len(text); end++ {
		out = append(out, text[:end])
	}
	for kind := range 12 {
		if kind != 7 {
			out = append(out, sealed(kind, []int{2, 7}), sealed(kind, []int{0, 0}))
		}
	}
	for size := range 17 {
		if size != 2 {
			out = append(out, sealed(7, append([]int{2, 7}, make([]int, 14)...)[:size]), sealed(7, make([]int, size)))
		}
	}
	for _, count := range []int{6, 7, 16, 255, 256, 257, mostNumber, 1 << 31, 1<<32 - 1} {
		out = append(out, headText(count, 7), headText(count, 0))
	}
	return append(out, headText(2, 1<<31), headText(0, 1<<31), headText(0, 1<<32-1))
}

func TestP8HeadsThatAreNotRight(t *testing.T) {
	for _, text := range noHeads() {
		for of := range 4 {
			d := waiting(emptyDisk(), of, 5, 7, listOf(5, false))
			d.Sectors[39+6*of] = text
			for host := range 4 {
				wantNoJournal(t, "head "+strconv.Quote(text), d, host, of, impl.ErrBroken)
				wantWaiting(t, "another slot", d, host, (of+3)%4, nil, 0)
			}
		}
	}
}

// Though right updates stand behind the slot's end, no more than five wait.
func TestP8HeadsThatTellOfTooMany(t *testing.T) {
	for of := range 4 {
		d := emptyDisk()
		for at := 40 + 6*of; at < 64; at++ {
			d.Sectors[at] = updateText(listOf(1, false)[0])
		}
		for _, count := range []int{6, 7, 24, 25, mostNumber} {
			d.Sectors[39+6*of] = headText(count, 7)
			for host := range 4 {
				wantNoJournal(t, "too many", d, host, of, impl.ErrBroken)
			}
		}
		d.Sectors[39+6*of] = headText(5, 7)
		wantWaiting(t, "just as many", d, of, of, slices.Repeat(listOf(1, false), 5), 7)
	}
}

func TestP8HeadsWithAByteChanged(t *testing.T) {
	for _, head := range []string{headText(0, 0), headText(2, 7), headText(5, mostNumber), headText(4, 252)} {
		for at := range len(head) {
			for n := range 256 {
				d := waiting(emptyDisk(), 2, 5, 7, listOf(5, false))
				d.Sectors[51] = head[:at] + string([]byte{byte(n)}) + head[at+1:]
				if list, seq, ok := journalBy(d, 0, 2); ok {
					wantWaiting(t, "changed", d, 0, 2, list, seq)
				} else {
					wantNoJournal(t, "changed", d, 0, 2, impl.ErrBroken)
				}
			}
		}
	}
}

func TestP8UpdatesThatWaitAndAreNotRight(t *testing.T) {
	for _, text := range noUpdateTexts() {
		for of := range 4 {
			for at := range 5 {
				d := waiting(emptyDisk(), of, 5, 7, listOf(5, false))
				d.Sectors[40+6*of+at] = text
				for count := range 6 {
					d.Sectors[39+6*of] = headText(count, 7)
					if at < count {
						wantNoJournal(t, "update "+strconv.Quote(text), d, (of+1)%4, of, impl.ErrBroken)
					} else {
						wantWaiting(t, "behind what waits", d, (of+1)%4, of, listOf(count, false), 7)
					}
				}
			}
		}
	}
}

func TestP8RandomSlotsAgreeWithTheDocument(t *testing.T) {
	r := rand.New(rand.NewSource(9))
	heads, texts, met := noHeads(), noUpdateTexts(), [2]int{}
	anyText := func(at int) string {
		right, head := r.Intn(12) > 0, (at-39)%6 == 0
		switch {
		case head && right:
			return headText(r.Intn(6), r.Intn(mostNumber+1))
		case head:
			return heads[r.Intn(len(heads))]
		case right:
			return updateText(impl.Update{At: 9 + r.Intn(30), Data: strings.Repeat("d", r.Intn(73))})
		}
		return texts[r.Intn(len(texts))]
	}
	for range 1500 {
		d := emptyDisk()
		for at := 39; at < 63; at++ {
			d.Sectors[at] = anyText(at)
		}
		for range r.Intn(20) {
			at := 39 + r.Intn(24)
			d.Pending = append(d.Pending, impl.Io{Host: r.Intn(4), At: at, Data: anyText(at)})
		}
		for of := range 4 {
			host := r.Intn(4)
			list, seq, ok := journalBy(d, host, of)
			if ok {
				wantWaiting(t, "random", d, host, of, list, seq)
			} else {
				wantNoJournal(t, "random", d, host, of, impl.ErrBroken)
			}
			met[numberOf(ok)]++
		}
	}
	if met[0] < 1000 || met[1] < 1000 {
		t.Error("few slots of one sort:", met)
	}
}

// Nothing is written: a full disk is read as any other one.
func TestP8SlotsOfFullDisks(t *testing.T) {
	for host := range 4 {
		d := filledUp(waiting(emptyDisk(), 3, 2, 7, listOf(2, false)), host, 200)
		for reader := range 4 {
			wantWaiting(t, "full", d, reader, 3, listOf(2, false), 7)
		}
	}
}

func TestP8SlotsAndHostsThatAreNone(t *testing.T) {
	broken := emptyDisk()
	for at := range broken.Sectors {
		broken.Sectors[at] = "broken"
	}
	for _, d := range []impl.Disk{emptyDisk(), waiting(emptyDisk(), 0, 2, 7, listOf(2, false)), broken, fullDisk()} {
		for _, none := range []int{-1, 4, 5, 256, 1 << 32, least, greatest} {
			for _, other := range anyHosts() {
				wantNoJournal(t, "no host", d, none, other, impl.ErrRange)
				wantNoJournal(t, "no slot's host", d, other, none, impl.ErrRange)
			}
		}
	}
	for _, w := range wrongDisks() {
		for _, host := range anyHosts() {
			for _, of := range anyHosts() {
				wantNoJournal(t, w.name, w.disk, host, of, impl.ErrBad)
			}
		}
	}
}
