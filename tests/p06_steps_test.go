package tests

import (
	"slices"
	"strconv"
	"testing"

	"loop.example/g00456/impl"
)

// Promise 6, of a host's single steps: which ballots are right, who aborts, and which ballot comes next.

// rightTry, stepBy and nextBy reckon as the document says, without the program.
func rightTry(p impl.Px) bool {
	between := func(n, low, high int) bool { return low <= n && n <= high }
	return between(p.Host, 0, 3) && between(p.Ver, 0, 1000000) && between(p.Phase, 1, 6) && between(p.Next, 0, 4) &&
		between(p.Ballot, 1, 1000000) && p.Ballot%4 == p.Host &&
		between(p.Value, 0, mostNumber) && between(p.Best, 0, mostNumber) && between(p.BestBal, 0, 1000000)
}

// countedBy is how a block counts with a version: nothing of an earlier one.
func countedBy(b impl.Block, ver int) impl.Block {
	if b.Ver >= ver {
		return b
	}
	return impl.Block{Ver: ver}
}

func stepBy(p impl.Px, given []impl.Block) (impl.Px, []impl.Block) {
	blocks := slices.Clone(given)
	own := countedBy(blocks[p.Host], p.Ver)
	switch p.Phase {
	case 1:
		if own.Ver > p.Ver || own.Mbal >= p.Ballot {
			p.Phase = 6
			return p, blocks
		}
		blocks[p.Host] = impl.Block{Ver: p.Ver, Mbal: p.Ballot, Bal: own.Bal, Inp: own.Inp}
		p.Phase, p.Next, p.Best, p.BestBal = 2, 0, own.Inp, own.Bal
	case 3:
		if own.Ver > p.Ver || own.Mbal != p.Ballot {
			p.Phase = 6
			return p, blocks
		}
		blocks[p.Host] = impl.Block{Ver: p.Ver, Mbal: p.Ballot, Bal: p.Ballot, Inp: p.Value}
		p.Phase, p.Next = 4, 0
	default:
		p = readStepBy(p, blocks)
	}
	return p, blocks
}

func readStepBy(p impl.Px, blocks []impl.Block) impl.Px {
	if p.Next == p.Host {
		p.Next++
	}
	if p.Next < 4 {
		b := countedBy(blocks[p.Next], p.Ver)
		if b.Ver > p.Ver || b.Mbal > p.Ballot {
			p.Phase = 6
			return p
		}
		if p.Phase == 2 && b.Bal > p.BestBal {
			p.Best, p.BestBal = b.Inp, b.Bal
		}
		p.Next++
		if p.Next == p.Host {
			p.Next++
		}
	}
	switch {
	case p.Next == 4 && p.Phase == 4:
		p.Phase = 5
	case p.Next == 4:
		p.Phase = 3
		if p.BestBal > 0 {
			p.Value = p.Best
		}
	}
	return p
}

// nextBy goes from the greatest ballot up to the next one of host 0, and from there to the host's.
func nextBy(host, ver int, blocks []impl.Block) int {
	n := 0
	for _, b := range blocks {
		n = max(n, countedBy(b, ver).Mbal)
	}
	for n++; n%4 != 0; n++ {
	}
	return n + host
}

func TestP6Constants(t *testing.T) {
	for i, phase := range []int{impl.PxWrite1, impl.PxRead1, impl.PxWrite2, impl.PxRead2, impl.PxDone, impl.PxAbort} {
		if phase != i+1 {
			t.Error("phase", i+1, phase)
		}
	}
	if impl.MaxBallot != 1000000 {
		t.Error("MaxBallot", impl.MaxBallot)
	}
}

// edgeTries have the least and the greatest of each number, the phases and places of Next all of them.
func edgeTries() []impl.Px {
	var out []impl.Px
	for _, ballot := range []int{1, 2, 3, 4, 8, 9, 999997, 999998, 999999, 1000000} {
		for phase := 1; phase <= 6; phase++ {
			for next := range 5 {
				for _, n := range []int{0, 1, mostNumber} {
					out = append(out, impl.Px{Host: ballot % 4, Ver: min(n, 1000000), Phase: phase, Ballot: ballot, Value: n, Next: next, Best: mostNumber - n, BestBal: min(n, 1000000)})
				}
			}
		}
	}
	return out
}

// wrongTries are not right in one way each, the last ones in several.
func wrongTries() []impl.Px {
	right := impl.Px{Host: 1, Ver: 5, Phase: 2, Ballot: 9, Value: 70, Next: 3, Best: 50, BestBal: 5}
	out := []impl.Px{{}, {Phase: 1}, {Phase: 1, Ballot: -4}, {Phase: 1, Host: 4, Ballot: 4}, {Phase: 1, Host: -1, Ballot: 3}, {Phase: 1, Host: 5, Ballot: 5}}
	change := func(f func(p *impl.Px, n int), numbers ...int) {
		for _, n := range append(numbers, -1, 1<<32, 1<<32+1, least, greatest) {
			p := right
			f(&p, n)
			out = append(out, p)
		}
	}
	change(func(p *impl.Px, n int) { p.Host = n }, 0, 2, 3, 4, 5)
	change(func(p *impl.Px, n int) { p.Ver = n }, 1000001)
	change(func(p *impl.Px, n int) { p.Phase = n }, 0, 7)
	change(func(p *impl.Px, n int) { p.Ballot = n }, 0, 4, 8, 10, 11, -3, -7, 1000000, 1000001, 1000005)
	change(func(p *impl.Px, n int) { p.Value = n }, mostNumber+1)
	change(func(p *impl.Px, n int) { p.Next = n }, 5)
	change(func(p *impl.Px, n int) { p.Best = n }, mostNumber+1)
	change(func(p *impl.Px, n int) { p.BestBal = n }, 1000001)
	change(func(p *impl.Px, n int) {
		*p = impl.Px{Host: n, Ver: n, Phase: n, Ballot: n, Value: n, Next: n, Best: n, BestBal: n}
	})
	return out
}

func TestP6WhichTriesAreRight(t *testing.T) {
	for _, p := range edgeTries() {
		if !impl.PxOK(p) || !rightTry(p) {
			t.Error("it is right:", p)
		}
	}
	for _, p := range wrongTries() {
		if impl.PxOK(p) || rightTry(p) {
			t.Error("it is not right:", p)
		}
	}
}

func TestP6Start(t *testing.T) {
	for _, ver := range []int{0, 1, 999999, 1000000} {
		for _, ballot := range []int{1, 2, 3, 4, 5, 999997, 999998, 999999, 1000000} {
			for _, value := range []int{0, 1, mostNumber} {
				p, code := impl.PxStart(ballot%4, ver, ballot, value)
				if want := (impl.Px{Host: ballot % 4, Ver: ver, Phase: 1, Ballot: ballot, Value: value}); p != want || code != impl.OK {
					t.Error("PxStart", want, p, code)
				}
			}
		}
	}
	wrong := [][4]int{{0, 0, 0, 1}, {0, 0, -4, 1}, {0, 0, 1000004, 1}, {3, 0, -1, 1}, {4, 0, 4, 1}, {-1, 0, 3, 1}, {1, 0, 1000001, 1}}
	for host := range 4 {
		for other := 1; other <= 8; other++ {
			if other%4 != host {
				wrong = append(wrong, [4]int{host, 0, other, 1})
			}
		}
	}
	for _, n := range []int{-1, 1000001, 1 << 32, least, greatest} {
		wrong = append(wrong, [4]int{n, 0, 4, 1}, [4]int{0, n, 4, 1}, [4]int{0, 0, n, 1}, [4]int{n, n, n, -1})
	}
	for _, n := range wrongNumbers() {
		wrong = append(wrong, [4]int{0, 0, 4, n})
	}
	for _, c := range wrong {
		if p, code := impl.PxStart(c[0], c[1], c[2], c[3]); p != (impl.Px{}) || code != impl.ErrRange {
			t.Error("PxStart", c, p, code)
		}
	}
}

// wantStep holds one step's answer against what is wanted.
func wantStep(t *testing.T, where string, p impl.Px, blocks []impl.Block, want impl.Px, wantBlocks []impl.Block) {
	t.Helper()
	got, list, code := impl.PxStep(p, blocks)
	if got != want || !slices.Equal(list, wantBlocks) || code != impl.OK {
		t.Errorf("%s: %v of %v is %v of %v with code %d, not %v of %v", where, p, blocks, got, list, code, want, wantBlocks)
	}
}

// Host 1 writes in version 5 and ballot 9: who aborts hangs on its own block alone.
func TestP6WritesByHand(t *testing.T) {
	aborted := impl.Block{Ver: -1}
	for _, c := range []struct {
		name      string
		phase     int
		own, want impl.Block
	}{
		{"nothing was begun", 1, impl.Block{Ver: 5}, impl.Block{Ver: 5, Mbal: 9}},
		{"one less was begun", 1, impl.Block{Ver: 5, Mbal: 8}, impl.Block{Ver: 5, Mbal: 9}},
		{"one less was accepted in", 1, impl.Block{Ver: 5, Mbal: 8, Bal: 5, Inp: 50}, impl.Block{Ver: 5, Mbal: 9, Bal: 5, Inp: 50}},
		{"begun already", 1, impl.Block{Ver: 5, Mbal: 9}, aborted},
		{"accepted already", 1, impl.Block{Ver: 5, Mbal: 9, Bal: 9, Inp: 70}, aborted},
		{"one more was begun", 1, impl.Block{Ver: 5, Mbal: 10}, aborted},
		{"the greatest was begun", 1, impl.Block{Ver: 5, Mbal: 1000000, Bal: 1, Inp: 50}, aborted},
		{"an earlier version", 1, impl.Block{Ver: 4, Mbal: 1000000, Bal: 1000000, Inp: 50}, impl.Block{Ver: 5, Mbal: 9}},
		{"an earlier version's same ballot", 1, impl.Block{Ver: 4, Mbal: 9, Bal: 5, Inp: 50}, impl.Block{Ver: 5, Mbal: 9}},
		{"the zero block", 1, impl.Block{}, impl.Block{Ver: 5, Mbal: 9}},
		{"a later version", 1, impl.Block{Ver: 6}, aborted},
		{"a later version's ballots", 1, impl.Block{Ver: 6, Mbal: 8, Bal: 5, Inp: 50}, aborted},
		{"accepts", 3, impl.Block{Ver: 5, Mbal: 9}, impl.Block{Ver: 5, Mbal: 9, Bal: 9, Inp: 70}},
		{"accepts behind an elder one", 3, impl.Block{Ver: 5, Mbal: 9, Bal: 5, Inp: 50}, impl.Block{Ver: 5, Mbal: 9, Bal: 9, Inp: 70}},
		{"accepts again", 3, impl.Block{Ver: 5, Mbal: 9, Bal: 9, Inp: 50}, impl.Block{Ver: 5, Mbal: 9, Bal: 9, Inp: 70}},
		{"accepts, but not begun", 3, impl.Block{Ver: 5}, aborted},
		{"accepts, but one less was begun", 3, impl.Block{Ver: 5, Mbal: 8}, aborted},
		{"accepts, but one more was begun", 3, impl.Block{Ver: 5, Mbal: 10}, aborted},
		{"accepts, but the host began anew", 3, impl.Block{Ver: 5, Mbal: 13, Bal: 5, Inp: 50}, aborted},
		{"accepts, an earlier version", 3, impl.Block{Ver: 4, Mbal: 9, Bal: 5, Inp: 50}, aborted},
		{"accepts, a later version", 3, impl.Block{Ver: 6, Mbal: 9, Bal: 5, Inp: 50}, aborted},
	} {
		for _, others := range []impl.Block{{}, {Ver: 5, Mbal: 1000000, Bal: 1000000, Inp: 1}, {Ver: 6, Mbal: 1}} {
			for next := range 5 {
				p := impl.Px{Host: 1, Ver: 5, Phase: c.phase, Ballot: 9, Value: 70, Next: next, Best: 80, BestBal: 2}
				want, blocks := p, []impl.Block{others, c.own, others, others}
				wantBlocks := slices.Clone(blocks)
				switch {
				case c.want == aborted:
					want.Phase = 6
				case c.phase == 1:
					wantBlocks[1] = c.want
					want.Phase, want.Next, want.Best, want.BestBal = 2, 0, c.want.Inp, c.want.Bal
				default:
					wantBlocks[1] = c.want
					want.Phase, want.Next = 4, 0
				}
				wantStep(t, c.name, p, blocks, want, wantBlocks)
			}
		}
	}
}

// readPlan says, of a host and its Next, which block is looked at (4: none), and what Next is behind that.
type readPlan struct{ host, next, looked, behind int }

func readPlans() []readPlan {
	return []readPlan{
		{0, 0, 1, 2}, {0, 1, 1, 2}, {0, 2, 2, 3}, {0, 3, 3, 4}, {0, 4, 4, 4},
		{1, 0, 0, 2}, {1, 1, 2, 3}, {1, 2, 2, 3}, {1, 3, 3, 4}, {1, 4, 4, 4},
		{2, 0, 0, 1}, {2, 1, 1, 3}, {2, 2, 3, 4}, {2, 3, 3, 4}, {2, 4, 4, 4},
		{3, 0, 0, 1}, {3, 1, 1, 2}, {3, 2, 2, 4}, {3, 3, 4, 4}, {3, 4, 4, 4},
	}
}

func (r readPlan) try(phase int) impl.Px {
	return impl.Px{Host: r.host, Ver: 5, Phase: phase, Ballot: 8 + r.host, Value: 70, Next: r.next}
}

// ended is p behind its look, and at its end where no block is left.
func (r readPlan) ended(p impl.Px) impl.Px {
	p.Next = r.behind
	if p.Next < 4 {
		return p
	}
	if p.Phase == 4 {
		p.Phase = 5
		return p
	}
	p.Phase = 3
	if p.BestBal > 0 {
		p.Value = p.Best
	}
	return p
}

// Of all blocks one is looked at, and that alone makes a host abort: never its own.
func TestP6ReadsAbortByTheBlockTheyLookAt(t *testing.T) {
	for _, r := range readPlans() {
		for _, phase := range []int{2, 4} {
			p := r.try(phase)
			for _, c := range []struct {
				b      impl.Block
				aborts bool
			}{
				{impl.Block{Ver: 5, Mbal: p.Ballot - 1}, false},
				{impl.Block{Ver: 5, Mbal: p.Ballot}, false},
				{impl.Block{Ver: 5, Mbal: p.Ballot + 1}, true},
				{impl.Block{Ver: 5, Mbal: 1000000, Bal: 1, Inp: 40}, true},
				{impl.Block{Ver: 4, Mbal: p.Ballot + 1, Bal: 1, Inp: 40}, false},
				{impl.Block{Ver: 0, Mbal: 1000000, Bal: 1000000, Inp: 40}, false},
				{impl.Block{Ver: 6}, true},
				{impl.Block{Ver: 1000000, Mbal: p.Ballot, Bal: 1, Inp: 40}, true},
			} {
				for place := range 4 {
					blocks := make([]impl.Block, 4)
					blocks[place] = c.b
					want := r.ended(p)
					if c.aborts && place == r.looked {
						want = p
						want.Next, want.Phase = r.looked, 6
					}
					wantStep(t, "place "+strconv.Itoa(place), p, blocks, want, blocks)
				}
			}
		}
	}
}

// In PxRead1 what was accepted in a greater ballot is heeded, of the block that is looked at alone; in PxRead2 nothing is.
func TestP6ReadsHeedTheBestValue(t *testing.T) {
	for _, r := range readPlans() {
		for _, phase := range []int{2, 4} {
			for _, bestBal := range []int{0, 1, 5, 6, 7, 1000000} {
				for _, b := range []impl.Block{{Ver: 5, Mbal: 7}, {Ver: 5, Mbal: 7, Bal: 6, Inp: 40}, {Ver: 5, Mbal: 8, Bal: 1}, {Ver: 4, Mbal: 9, Bal: 9, Inp: 40}} {
					for place := range 4 {
						p := r.try(phase)
						p.Best, p.BestBal = 30, bestBal
						blocks := make([]impl.Block, 4)
						blocks[place] = b
						heeded := p
						if phase == 2 && place == r.looked && b.Ver == 5 && b.Bal > bestBal {
							heeded.Best, heeded.BestBal = b.Inp, b.Bal
						}
						wantStep(t, "place "+strconv.Itoa(place), p, blocks, r.ended(heeded), blocks)
					}
				}
			}
		}
	}
}

// blocksAbout are blocks of an earlier, this and a later version, with ballots about a given one.
func blocksAbout(ver, ballot int) []impl.Block {
	var out []impl.Block
	for _, v := range []int{0, ver - 1, ver, ver + 1, 1000000} {
		for _, mbal := range []int{0, 1, ballot - 1, ballot, ballot + 1, 1000000} {
			for _, bal := range []int{0, 1, ballot - 1, ballot, mbal} {
				for _, inp := range []int{0, 90} {
					if b := (impl.Block{Ver: v, Mbal: mbal, Bal: bal, Inp: inp}); rightBlock(b) && !slices.Contains(out, b) {
						out = append(out, b)
					}
				}
			}
		}
	}
	return out
}

func TestP6StepsAreWhatTheDocumentSays(t *testing.T) {
	ends := map[[2]int]int{}
	for _, p := range edgeTries() {
		if p.Phase > 4 {
			continue
		}
		for _, b := range blocksAbout(p.Ver, p.Ballot) {
			for place := range 4 {
				blocks := []impl.Block{{Ver: p.Ver}, {}, {Ver: p.Ver, Mbal: 1, Bal: 1, Inp: 60}, {Ver: p.Ver, Mbal: 1}}
				blocks[place] = b
				want, wantBlocks := stepBy(p, blocks)
				wantStep(t, "place "+strconv.Itoa(place), p, blocks, want, wantBlocks)
				if !impl.PxOK(want) || slices.ContainsFunc(wantBlocks, func(b impl.Block) bool { return !impl.BlockOK(b) }) {
					t.Error("not right behind a step:", want, wantBlocks)
				}
				ends[[2]int{p.Phase, want.Phase}]++
			}
		}
		if t.Failed() {
			return
		}
	}
	for _, turn := range [][2]int{{1, 2}, {1, 6}, {2, 2}, {2, 3}, {2, 6}, {3, 4}, {3, 6}, {4, 4}, {4, 5}, {4, 6}} {
		if ends[turn] == 0 {
			t.Error("no step from phase", turn[0], "to phase", turn[1])
		}
	}
	if len(ends) != 10 {
		t.Error("other turns:", ends)
	}
}

// wantNoStep asks for a code with a try and blocks that are zero.
func wantNoStep(t *testing.T, where string, p impl.Px, blocks []impl.Block, want int) {
	t.Helper()
	got, list, code := impl.PxStep(p, blocks)
	if got != (impl.Px{}) || len(list) != 0 || code != want {
		t.Errorf("%s: %v of %d blocks with code %d, not %d", where, got, len(list), code, want)
	}
}

func TestP6ClosedBallotsStayAsTheyWere(t *testing.T) {
	for _, p := range edgeTries() {
		if p.Phase < 5 {
			continue
		}
		for _, b := range []impl.Block{{}, {Ver: p.Ver, Mbal: 7, Bal: 7, Inp: 7}, {Ver: 1000000, Mbal: 1000000}} {
			blocks := []impl.Block{b, {}, b, {Mbal: 3}}
			got, list, code := impl.PxStep(p, blocks)
			if got != p || !slices.Equal(list, blocks) || code != impl.ErrClosed {
				t.Error("PxStep", p, got, list, code)
			}
		}
	}
}

func TestP6StepsThatAreRefused(t *testing.T) {
	right := make([]impl.Block, 4)
	for _, p := range wrongTries() {
		wantNoStep(t, "wrong try", p, right, impl.ErrBad)
		wantNoStep(t, "wrong try, no blocks", p, nil, impl.ErrBad)
		wantNoStep(t, "wrong try, MaxList blocks", p, make([]impl.Block, impl.MaxList), impl.ErrBad)
		wantNoStep(t, "wrong try, too long a list", p, make([]impl.Block, impl.MaxList+1), impl.ErrLong)
	}
	for phase := 1; phase <= 6; phase++ {
		p := impl.Px{Host: 1, Phase: phase, Ballot: 9}
		for _, b := range wrongBlocks() {
			for place := range 4 {
				blocks := slices.Clone(right)
				blocks[place] = b
				wantNoStep(t, "wrong block", p, blocks, impl.ErrBad)
			}
		}
		for _, size := range []int{0, 1, 3, 5, 8, impl.MaxList - 1, impl.MaxList} {
			wantNoStep(t, "blocks of "+strconv.Itoa(size), p, make([]impl.Block, size), impl.ErrBad)
		}
		for _, size := range []int{impl.MaxList + 1, 2 * impl.MaxList} {
			blocks := make([]impl.Block, size)
			wantNoStep(t, "blocks of "+strconv.Itoa(size), p, blocks, impl.ErrLong)
			blocks[0].Ver = -1
			wantNoStep(t, "wrong blocks of "+strconv.Itoa(size), p, blocks, impl.ErrLong)
		}
	}
}

func wantBallot(t *testing.T, host, ver int, blocks []impl.Block, want, wantCode int) {
	t.Helper()
	if n, code := impl.NextBallot(host, ver, blocks); n != want || code != wantCode {
		t.Errorf("NextBallot of host %d, version %d, %.200v: %d with code %d, not %d with %d", host, ver, blocks, n, code, want, wantCode)
	}
}

func TestP6NextBallotByHand(t *testing.T) {
	for _, c := range []struct {
		host, mbal, want, code int
	}{
		{0, 0, 4, 0}, {1, 0, 5, 0}, {3, 0, 7, 0}, {0, 1, 4, 0}, {3, 3, 7, 0}, {0, 3, 4, 0}, {0, 4, 8, 0}, {3, 4, 11, 0}, {0, 7, 8, 0}, {1, 7, 9, 0}, {2, 8, 14, 0},
		{0, 999995, 999996, 0}, {3, 999995, 999999, 0}, {0, 999996, 1000000, 0}, {0, 999999, 1000000, 0},
		{1, 999996, 0, impl.ErrMany}, {3, 999996, 0, impl.ErrMany}, {1, 999999, 0, impl.ErrMany},
		{0, 1000000, 0, impl.ErrMany}, {1, 1000000, 0, impl.ErrMany}, {3, 1000000, 0, impl.ErrMany},
	} {
		for _, ver := range []int{0, 1, 1000000} {
			for place := range 4 {
				blocks := make([]impl.Block, 4)
				blocks[place] = impl.Block{Ver: ver, Mbal: c.mbal}
				wantBallot(t, c.host, ver, blocks, c.want, c.code)
				blocks[(place+1)%4] = impl.Block{Ver: ver, Mbal: c.mbal / 2}
				wantBallot(t, c.host, ver, blocks, c.want, c.code)
			}
		}
	}
}

// Earlier versions count as nothing, later ones with what they have.
func TestP6NextBallotOfOtherVersions(t *testing.T) {
	for place := range 4 {
		blocks := make([]impl.Block, 4)
		blocks[place] = impl.Block{Ver: 6, Mbal: 1000000, Bal: 1000000, Inp: 5}
		wantBallot(t, 2, 7, blocks, 6, impl.OK)
		wantBallot(t, 2, 1000000, blocks, 6, impl.OK)
		wantBallot(t, 2, 6, blocks, 0, impl.ErrMany)
		wantBallot(t, 2, 5, blocks, 0, impl.ErrMany)
		wantBallot(t, 2, 0, blocks, 0, impl.ErrMany)
		blocks[place].Mbal, blocks[place].Bal = 21, 13
		wantBallot(t, 2, 6, blocks, 26, impl.OK)
		wantBallot(t, 2, 5, blocks, 26, impl.OK)
		wantBallot(t, 2, 7, blocks, 6, impl.OK)
	}
}

func TestP6NextBallotIsTheHostsOwnAndAboveAll(t *testing.T) {
	numbers := []int{0, 1, 2, 3, 4, 5, 7, 8, 250, 999991, 999992, 999995, 999996, 999999, 1000000}
	for _, a := range numbers {
		for _, b := range numbers {
			blocks := []impl.Block{{Ver: 5, Mbal: a}, {Ver: 4, Mbal: 1000000}, {Ver: 5, Mbal: b, Bal: min(b, 1)}, {Ver: 6, Mbal: 3}}
			for host := range 4 {
				n, code := impl.NextBallot(host, 5, blocks)
				want := nextBy(host, 5, blocks)
				switch {
				case want > 1000000 && (code != impl.ErrMany || n != 0):
					t.Error("NextBallot", host, blocks, n, code)
				case want <= 1000000 && (code != impl.OK || n != want || n%4 != host || n <= max(a, b, 3)):
					t.Error("NextBallot", host, blocks, n, code)
				}
			}
		}
	}
}

func TestP6NextBallotsThatAreRefused(t *testing.T) {
	right, most := make([]impl.Block, 4), []impl.Block{{}, {}, {}, {Ver: 1000000, Mbal: 1000000}}
	for _, n := range []int{-1, 4, least, greatest} {
		wantBallot(t, n, 0, right, 0, impl.ErrRange)
		wantBallot(t, n, 0, most, 0, impl.ErrRange)
		wantBallot(t, n, -1, right, 0, impl.ErrRange)
	}
	for _, n := range []int{-1, 1000001, 1 << 32, least, greatest} {
		wantBallot(t, 0, n, right, 0, impl.ErrRange)
		wantBallot(t, 3, n, most, 0, impl.ErrRange)
	}
	for _, host := range []int{0, 3, -1, 4} {
		for _, ver := range []int{0, 1000000, -1, 1000001} {
			for _, b := range wrongBlocks() {
				for place := range 4 {
					blocks := slices.Clone(most)
					blocks[place] = b
					wantBallot(t, host, ver, blocks, 0, impl.ErrBad)
				}
			}
			for _, size := range []int{0, 1, 3, 5, impl.MaxList} {
				wantBallot(t, host, ver, make([]impl.Block, size), 0, impl.ErrBad)
			}
			wantBallot(t, host, ver, make([]impl.Block, impl.MaxList+1), 0, impl.ErrLong)
			wantBallot(t, host, ver, append(make([]impl.Block, impl.MaxList+1), impl.Block{Ver: -1}), 0, impl.ErrLong)
		}
	}
}
