package tests

import (
	"math/rand"
	"slices"
	"strconv"
	"strings"
	"testing"

	"loop.example/g00456/impl"
)

// Promise 8, of plans and of the moves that they are made of.

func moveWrite(at int, data string) impl.Move {
	return impl.Move{Kind: 1, At: at, Data: data}
}

func moveFlush() impl.Move {
	return impl.Move{Kind: 2}
}

// applyBy, planBy, movesBy and lostBy reckon as the document says, without the program.
func applyBy(of, seq int, list []impl.Update) []impl.Move {
	if len(list) == 0 {
		return nil
	}
	var out []impl.Move
	for _, u := range list {
		out = append(out, moveWrite(u.At, u.Data))
	}
	return append(out, moveFlush(), moveWrite(39+6*of, headText(0, seq)), moveFlush())
}

func planBy(host, seq int, list []impl.Update) []impl.Move {
	if len(list) == 0 {
		return nil
	}
	var out []impl.Move
	for i, u := range list {
		out = append(out, moveWrite(40+6*host+i, updateText(u)))
	}
	out = append(out, moveFlush(), moveWrite(39+6*host, headText(len(list), seq)), moveFlush())
	return append(out, applyBy(host, seq, list)...)
}

func movesBy(d impl.Disk, host int, list []impl.Move) impl.Disk {
	d = cloneDisk(d)
	for _, m := range list {
		if m.Kind == 1 {
			d.Pending = append(d.Pending, impl.Io{Host: host, At: m.At, Data: m.Data})
		} else {
			d = lostBy(d, host, 200)
		}
	}
	return d
}

func lostBy(d impl.Disk, host, keep int) impl.Disk {
	out := impl.Disk{Sectors: slices.Clone(d.Sectors)}
	for _, w := range d.Pending {
		if w.Host != host {
			out.Pending = append(out.Pending, w)
		} else if keep > 0 {
			out.Sectors[w.At] = w.Data
			keep--
		}
	}
	return out
}

// listOf has size updates, of one place each or, if same holds, all of one place.
func listOf(size int, same bool) []impl.Update {
	var out []impl.Update
	for i := range size {
		at := []int{38, 9, 20, 15, 10, 11}[i%6]
		if same {
			at = 20
		}
		out = append(out, impl.Update{At: at, Data: "new " + strconv.Itoa(i)})
	}
	return out
}

func wantNoMoves(t *testing.T, where string, list []impl.Move, got, want int) {
	t.Helper()
	if len(list) != 0 || got != want {
		t.Errorf("%s: %d moves with code %d, not %d", where, len(list), got, want)
	}
}

func TestP8PlanByHand(t *testing.T) {
	two := []impl.Update{{At: 38, Data: "a"}, {At: 9}}
	want := []impl.Move{
		{Kind: 1, At: 58, Data: "\x08\x01\x91\x00\x26\x00\x00\x00a"}, // 9 + 2 * 2 + 3 * 39 + 4 + 5 + 6
		{Kind: 1, At: 59, Data: "\x08\x01\x3a\x00\x09\x00\x00\x00"},  // 9 + 2 * 2 + 3 * 10 + 4 + 5 + 6
		{Kind: 2},
		{Kind: 1, At: 57, Data: "\x07\x02\x5d\x00\x02\x00\x00\x00\x03\x00\x00\x00"}, // 8 + 6 + 9 + 4 + 5 + 6 + 28 + 8 + 9 + 10
		{Kind: 2},
		{Kind: 1, At: 38, Data: "a"},
		{Kind: 1, At: 9},
		{Kind: 2},
		{Kind: 1, At: 57, Data: "\x07\x02\x57\x00\x00\x00\x00\x00\x03\x00\x00\x00"}, // 2 * 3 less
		{Kind: 2},
	}
	if got, code := impl.JournalPlan(3, 3, two); !slices.Equal(got, want) || code != impl.OK {
		t.Errorf("JournalPlan: %v %d", got, code)
	}
}

func TestP8Plans(t *testing.T) {
	for host := range 4 {
		for _, seq := range []int{0, 1, 255, 256, mostNumber - 1, mostNumber} {
			for size := range 6 {
				for _, list := range [][]impl.Update{listOf(size, false), listOf(size, true), slices.Repeat([]impl.Update{{At: 9}}, size), slices.Repeat([]impl.Update{{At: 38, Data: strings.Repeat("z", 72)}}, size)} {
					got, code := impl.JournalPlan(host, seq, list)
					if !slices.Equal(got, planBy(host, seq, list)) || code != impl.OK {
						t.Errorf("JournalPlan of %d by %d with %d: %v %d", size, host, seq, got, code)
					}
				}
			}
		}
		for _, list := range [][]impl.Update{nil, {}} {
			got, code := impl.JournalPlan(host, 7, list)
			wantNoMoves(t, "JournalPlan of none", got, code, impl.OK)
		}
	}
}

func TestP8PlansOfUpdatesThatAreNotRight(t *testing.T) {
	for _, wrong := range wrongUpdates() {
		for size := 1; size <= 5; size++ {
			for at := range size {
				list := listOf(size, false)
				list[at] = wrong
				got, code := impl.JournalPlan(2, 7, list)
				wantNoMoves(t, "JournalPlan", got, code, impl.ErrBad)
			}
		}
		// There are too many, whatever they are.
		for size := 6; size <= 8; size++ {
			got, code := impl.JournalPlan(2, 7, slices.Repeat([]impl.Update{wrong}, size))
			wantNoMoves(t, "JournalPlan", got, code, impl.ErrMany)
		}
	}
}

// planLists are none, a right one, one that is not right, too many, and as long as a list may be.
func planLists() [][]impl.Update {
	return [][]impl.Update{nil, listOf(1, false), listOf(5, true), {{}}, listOf(6, false), make([]impl.Update, 6), make([]impl.Update, impl.MaxList)}
}

func TestP8PlansWithSeveralFaults(t *testing.T) {
	for _, list := range planLists() {
		for _, host := range []int{-1, 4, 256, least, greatest} {
			for _, seq := range []int{0, mostNumber, -1, mostNumber + 1, least, greatest} {
				got, code := impl.JournalPlan(host, seq, list)
				wantNoMoves(t, "JournalPlan, no host", got, code, impl.ErrRange)
			}
		}
		for _, seq := range wrongNumbers() {
			for host := range 4 {
				got, code := impl.JournalPlan(host, seq, list)
				wantNoMoves(t, "JournalPlan, no number", got, code, impl.ErrRange)
			}
		}
	}
	for _, size := range []int{6, 7, 16, 255, 256, 257, impl.MaxList - 1, impl.MaxList} {
		for _, list := range [][]impl.Update{listOf(size, false), make([]impl.Update, size)} {
			got, code := impl.JournalPlan(0, 0, list)
			wantNoMoves(t, "JournalPlan of many", got, code, impl.ErrMany)
		}
	}
	for _, size := range []int{impl.MaxList + 1, impl.MaxList + 2, 2 * impl.MaxList} {
		for _, list := range [][]impl.Update{listOf(size, false), make([]impl.Update, size)} {
			for _, host := range []int{0, 3, -1, 4, least} {
				for _, seq := range []int{0, -1, greatest} {
					got, code := impl.JournalPlan(host, seq, list)
					wantNoMoves(t, "JournalPlan of a list that is too long", got, code, impl.ErrLong)
				}
			}
		}
	}
}

// wantMoved holds moves that must be done against what the document says.
func wantMoved(t *testing.T, where string, d impl.Disk, host int, list []impl.Move) impl.Disk {
	t.Helper()
	got, code := impl.MovesDo(d, host, list)
	if code != impl.OK || !sameDisk(got, movesBy(d, host, list)) {
		t.Fatalf("%s: MovesDo by %d of %d moves: another disk, with code %d", where, host, len(list), code)
	}
	return got
}

func TestP8MovesAreDoneOneByOne(t *testing.T) {
	for _, d := range []impl.Disk{emptyDisk(), mixedDisk(), deltaDisk(), leaderDisk()} {
		for host := range 4 {
			wantMoved(t, "none", d, host, nil)
			wantMoved(t, "none", d, host, []impl.Move{})
			wantMoved(t, "a flush", d, host, []impl.Move{moveFlush()})
			for _, at := range []int{0, 8, 9, 38, 39, 63} {
				for _, data := range []string{"", "x", strings.Repeat("x", 80)} {
					wantMoved(t, "a write", d, host, []impl.Move{moveWrite(at, data)})
					wantMoved(t, "a write, sure", d, host, []impl.Move{moveWrite(at, data), moveFlush()})
					wantMoved(t, "a flush first", d, host, []impl.Move{moveFlush(), moveWrite(at, data)})
					wantMoved(t, "one place twice", d, host, []impl.Move{moveWrite(at, "elder"), moveWrite(at, data), moveFlush(), moveFlush(), moveWrite(at, "newer")})
				}
			}
		}
	}
}

func TestP8RandomMovesAgreeWithTheDocument(t *testing.T) {
	r := rand.New(rand.NewSource(8))
	for range 400 {
		d := impl.NewDisk()
		for range 12 {
			var list []impl.Move
			for range r.Intn(17) {
				if r.Intn(4) == 0 {
					list = append(list, moveFlush())
				} else {
					list = append(list, moveWrite(r.Intn(64), strings.Repeat(strconv.Itoa(r.Intn(10)), r.Intn(81))))
				}
			}
			host := r.Intn(4)
			if len(d.Pending)+len(list) <= 200 {
				d = wantMoved(t, "random", d, host, list)
			}
		}
	}
}

// Room is asked for of all moves, also of flushes, whoever has the writes that wait.
func TestP8MovesNeedRoom(t *testing.T) {
	lists := map[string][]impl.Move{
		"none":            nil,
		"a flush":         {moveFlush()},
		"two flushes":     {moveFlush(), moveFlush()},
		"a write":         {moveWrite(9, "x")},
		"a flush first":   {moveFlush(), moveWrite(9, "x"), moveWrite(10, "y")},
		"a plan of one":   planBy(1, 7, listOf(1, false)),
		"a plan of five":  planBy(1, 7, listOf(5, false)),
		"a replay":        applyBy(2, 7, listOf(3, false)),
		"as many as fit":  slices.Repeat([]impl.Move{moveWrite(9, "x")}, 200),
		"one too many":    slices.Repeat([]impl.Move{moveWrite(9, "x")}, 201),
		"a list's utmost": slices.Repeat([]impl.Move{moveFlush()}, impl.MaxList),
	}
	for name, list := range lists {
		for host := range 4 {
			for writer := range 4 {
				for count := max(0, 198-len(list)); count <= 200; count++ {
					d := filledUp(emptyDisk(), writer, count)
					if count+len(list) <= 200 {
						wantMoved(t, name, d, host, list)
						continue
					}
					if got, code := impl.MovesDo(d, host, list); code != impl.ErrFull || !sameDisk(got, d) {
						t.Fatal(name, "on", count, "writes of", writer, "by", host, "code", code, len(got.Sectors), len(got.Pending))
					}
				}
			}
		}
	}
}

// wrongMoves are not right in one way each, the last ones in several.
func wrongMoves() []impl.Move {
	out := []impl.Move{{}, {At: 9, Data: "x"}, {Kind: 2, At: 1}, {Kind: 2, At: -1}, {Kind: 2, At: 64}, {Kind: 2, Data: "x"}, {Kind: 2, Data: "\x00"}, {Kind: 2, At: least}, {Kind: 2, At: greatest}}
	for _, kind := range []int{0, 3, -1, 257, 258, 1<<32 + 1, 1<<32 + 2, least, greatest} {
		out = append(out, impl.Move{Kind: kind}, impl.Move{Kind: kind, At: 9, Data: "x"})
	}
	for _, at := range []int{-1, 64, 65, 256, 1 << 32, 1<<32 + 9, least, greatest} {
		out = append(out, moveWrite(at, ""), moveWrite(at, "x"))
	}
	for _, n := range []int{81, 82, 336, impl.MaxText, impl.MaxText + 1} {
		out = append(out, moveWrite(9, strings.Repeat("x", n)), impl.Move{Kind: 2, Data: strings.Repeat("x", n)})
	}
	return append(out, moveWrite(-1, strings.Repeat("x", 81)), impl.Move{Kind: 3, At: 64, Data: strings.Repeat("x", impl.MaxText+1)})
}

func TestP8MovesThatAreNotRight(t *testing.T) {
	for _, wrong := range wrongMoves() {
		for _, d := range []impl.Disk{emptyDisk(), mixedDisk(), filledUp(emptyDisk(), 1, 199), fullDisk()} {
			for _, list := range [][]impl.Move{{wrong}, {moveFlush(), wrong}, {wrong, moveWrite(9, "x")}, {moveWrite(9, "x"), moveFlush(), wrong, moveFlush()}} {
				got, code := impl.MovesDo(d, 1, list)
				wantCode(t, "MovesDo", code, impl.ErrBad, got)
			}
		}
		// None of a list is done if its last move is not right, though there were no room for it.
		list := append(slices.Repeat([]impl.Move{moveFlush()}, impl.MaxList-1), wrong)
		got, code := impl.MovesDo(emptyDisk(), 1, list)
		wantCode(t, "MovesDo of a long list", code, impl.ErrBad, got)
	}
}

// moveLists are none, right ones, ones that are not right, and as long as a list may be.
func moveLists() [][]impl.Move {
	return [][]impl.Move{nil, {moveFlush()}, planBy(2, 7, listOf(5, false)), {moveWrite(64, "x")}, {{}}, make([]impl.Move, impl.MaxList), slices.Repeat([]impl.Move{moveFlush()}, impl.MaxList)}
}

func TestP8MovesWithSeveralFaults(t *testing.T) {
	for _, list := range moveLists() {
		for _, w := range wrongDisks() {
			for _, host := range anyHosts() {
				got, code := impl.MovesDo(w.disk, host, list)
				wantCode(t, "MovesDo: "+w.name, code, impl.ErrBad, got)
			}
		}
		for _, host := range []int{-1, 4, 256, least, greatest} {
			for _, d := range []impl.Disk{emptyDisk(), mixedDisk(), fullDisk()} {
				got, code := impl.MovesDo(d, host, list)
				wantCode(t, "MovesDo, no host", code, impl.ErrRange, got)
			}
		}
	}
	for _, size := range []int{impl.MaxList + 1, impl.MaxList + 2, 2 * impl.MaxList} {
		for _, list := range [][]impl.Move{make([]impl.Move, size), slices.Repeat([]impl.Move{moveFlush()}, size)} {
			for _, host := range anyHosts() {
				for _, d := range []impl.Disk{emptyDisk(), fullDisk(), {}} {
					got, code := impl.MovesDo(d, host, list)
					wantCode(t, "MovesDo of a list that is too long", code, impl.ErrLong, got)
				}
			}
		}
	}
}
