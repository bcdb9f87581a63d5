package tests

import (
	"math/rand"
	"slices"
	"strconv"
	"testing"

	"loop.example/g00456/impl"
)

// Promise 6: whoever decides decides the same, and a value that somebody had, in whatever order hosts take steps; one that takes all steps alone decides.

// runBy reckons a whole run as the document says, without the program.
func runBy(values, schedule []int) ([]int, []impl.Block) {
	tries, blocks, out := make([]impl.Px, 4), make([]impl.Block, 4), []int{-1, -1, -1, -1}
	for _, host := range schedule {
		if tries[host].Phase == 5 {
			continue
		}
		if tries[host].Phase == 0 || tries[host].Phase == 6 {
			tries[host] = impl.Px{Host: host, Phase: 1, Ballot: nextBy(host, 0, blocks), Value: values[host]}
		}
		tries[host], blocks = stepBy(tries[host], blocks)
		if tries[host].Phase == 5 {
			out[host] = tries[host].Value
		}
	}
	return out, blocks
}

// wantAgreement holds the promise against what hosts decided, -1 being nothing.
func wantAgreement(t *testing.T, where string, values, decided []int) {
	t.Helper()
	one := -1
	for _, n := range decided {
		switch {
		case n == -1:
		case !slices.Contains(values, n):
			t.Fatal(where, "nobody had it:", values, decided)
		case one != -1 && n != one:
			t.Fatal(where, "two values were decided:", values, decided)
		default:
			one = n
		}
	}
}

// wantRun asks for an answer with OK that is the model's and holds the promise.
func wantRun(t *testing.T, where string, values, schedule []int) []int {
	t.Helper()
	decided, blocks, code := impl.RunPaxos(values, schedule)
	want, wantBlocks := runBy(values, schedule)
	if !slices.Equal(decided, want) || !slices.Equal(blocks, wantBlocks) || code != impl.OK {
		t.Fatalf("%s: %v of %.60v: %v %v with code %d, not %v %v", where, values, schedule, decided, blocks, code, want, wantBlocks)
	}
	wantAgreement(t, where, values, decided)
	return decided
}

func TestP6RunsByHand(t *testing.T) {
	values := []int{10, 20, 30, 40}
	for _, c := range []struct {
		name     string
		schedule []int
		decided  []int
		blocks   []impl.Block
	}{
		{"nobody", nil, []int{-1, -1, -1, -1}, []impl.Block{{}, {}, {}, {}}},
		{"host 3 begins", []int{3}, []int{-1, -1, -1, -1}, []impl.Block{{}, {}, {}, {Mbal: 7}}},
		{"host 3 has not written again", []int{3, 3, 3, 3}, []int{-1, -1, -1, -1}, []impl.Block{{}, {}, {}, {Mbal: 7}}},
		{"host 3 wrote again", []int{3, 3, 3, 3, 3}, []int{-1, -1, -1, -1}, []impl.Block{{}, {}, {}, {Mbal: 7, Bal: 7, Inp: 40}}},
		{"host 3 has one to read", []int{3, 3, 3, 3, 3, 3, 3}, []int{-1, -1, -1, -1}, []impl.Block{{}, {}, {}, {Mbal: 7, Bal: 7, Inp: 40}}},
		{"host 3 decided", []int{3, 3, 3, 3, 3, 3, 3, 3}, []int{-1, -1, -1, 40}, []impl.Block{{}, {}, {}, {Mbal: 7, Bal: 7, Inp: 40}}},
		{"host 3 does no more", []int{3, 3, 3, 3, 3, 3, 3, 3, 3, 3, 3}, []int{-1, -1, -1, 40}, []impl.Block{{}, {}, {}, {Mbal: 7, Bal: 7, Inp: 40}}},
		{"host 0 comes behind host 3", []int{3, 3, 3, 3, 3, 3, 3, 3, 0, 0, 0, 0, 0, 0, 0, 0}, []int{40, -1, -1, 40}, []impl.Block{{Mbal: 8, Bal: 8, Inp: 40}, {}, {}, {Mbal: 7, Bal: 7, Inp: 40}}},
		{"host 1 saw what host 0 accepted, host 0 aborts and begins anew", []int{0, 0, 0, 0, 0, 1, 0, 0}, []int{-1, -1, -1, -1}, []impl.Block{{Mbal: 12, Bal: 4, Inp: 10}, {Mbal: 9}, {}, {}}},
		{"host 0 aborts by host 1, and begins at its next turn", []int{0, 1, 0}, []int{-1, -1, -1, -1}, []impl.Block{{Mbal: 4}, {Mbal: 9}, {}, {}}},
		{"host 0 has begun anew", []int{0, 1, 0, 0}, []int{-1, -1, -1, -1}, []impl.Block{{Mbal: 12}, {Mbal: 9}, {}, {}}},
		{"host 1 was read ahead of its beginning, and takes what it finds", []int{0, 0, 0, 0, 0, 0, 0, 1, 0, 1, 1, 1, 1, 1, 1, 1}, []int{10, 10, -1, -1}, []impl.Block{{Mbal: 4, Bal: 4, Inp: 10}, {Mbal: 9, Bal: 9, Inp: 10}, {}, {}}},
	} {
		if got := wantRun(t, c.name, values, c.schedule); !slices.Equal(got, c.decided) {
			t.Error(c.name, got)
		}
		if _, blocks, _ := impl.RunPaxos(values, c.schedule); !slices.Equal(blocks, c.blocks) {
			t.Error(c.name, blocks)
		}
	}
}

func valueLists() [][]int {
	return [][]int{{10, 20, 30, 40}, {0, 0, 0, 0}, {0, 1, 2, 3}, {mostNumber, 0, mostNumber, 1}, {7, 7, 8, 8}, {mostNumber, mostNumber - 1, 0, 1}}
}

// repeated is a host's name so many times.
func repeated(host, times int) []int {
	return slices.Repeat([]int{host}, times)
}

// A host alone needs eight steps, and decides its own value; whoever comes later decides that, too, however many others were under way.
func TestP6AHostAloneDecides(t *testing.T) {
	for _, values := range valueLists() {
		for host := range 4 {
			if got := wantRun(t, "seven steps", values, repeated(host, 7)); got[host] != -1 {
				t.Error("decided too early:", host, got)
			}
			if got := wantRun(t, "eight steps", values, repeated(host, 8)); got[host] != values[host] {
				t.Error("not decided:", host, got)
			}
			schedule := repeated(host, 8)
			for k := 1; k < 4; k++ {
				schedule = append(schedule, repeated((host+k)%4, 8)...)
				if got := wantRun(t, "one behind another", values, schedule); got[(host+k)%4] != values[host] {
					t.Error("not decided:", host, k, got)
				}
			}
		}
	}
}

// Whatever was under way ahead of it, eight steps behind its abort, sixteen in all, are enough for one that is alone.
func TestP6AHostAloneDecidesBehindAnyBeginning(t *testing.T) {
	r := rand.New(rand.NewSource(6))
	for range 3000 {
		values := valueLists()[r.Intn(6)]
		var schedule []int
		for range r.Intn(60) {
			schedule = append(schedule, r.Intn(4))
		}
		host := r.Intn(4)
		before := wantRun(t, "beginning", values, schedule)
		after := wantRun(t, "alone", values, append(schedule, repeated(host, 16)...))
		if after[host] == -1 {
			t.Fatal("not decided:", host, values, schedule)
		}
		for i, n := range before {
			if n != -1 && after[i] != n {
				t.Fatal("what was decided is another one later:", before, after, schedule)
			}
		}
	}
}

// mixedSchedule has hosts by turns, in bursts or at random, some of which stop for good on the way.
func mixedSchedule(r *rand.Rand, size int) []int {
	hosts, out := r.Perm(4)[:1+r.Intn(4)], []int(nil)
	style, longest := r.Intn(3), 1+r.Intn(9)
	for len(out) < size {
		host := hosts[len(out)%len(hosts)]
		if style > 0 {
			host = hosts[r.Intn(len(hosts))]
		}
		times := 1
		if style == 2 {
			times = 1 + r.Intn(longest)
		}
		out = append(out, repeated(host, times)...)
		if len(hosts) > 1 && r.Intn(25) == 0 {
			hosts = hosts[1:]
		}
	}
	return out[:size]
}

func TestP6RunsInMixedOrders(t *testing.T) {
	r := rand.New(rand.NewSource(5))
	several, none := 0, 0
	for range 6000 {
		values := valueLists()[r.Intn(6)]
		decided := wantRun(t, "mixed", values, mixedSchedule(r, r.Intn(120)))
		switch n := len(decided) - len(slices.DeleteFunc(slices.Clone(decided), func(n int) bool { return n != -1 })); {
		case n > 1:
			several++
		case n == 0:
			none++
		}
	}
	if several < 500 || none < 500 {
		t.Error("the runs are of one kind:", several, none)
	}
}

// Hosts that take their steps by turns make each other abort again and again.
func TestP6SomeRunsNeverEnd(t *testing.T) {
	values, schedule := []int{10, 20, 30, 40}, []int(nil)
	for len(schedule) < 4096 {
		schedule = append(schedule, len(schedule)%4)
	}
	decided := wantRun(t, "by turns", values, schedule)
	_, blocks, _ := impl.RunPaxos(values, schedule)
	if !slices.Equal(decided, []int{-1, -1, -1, -1}) || blocks[0].Mbal < 400 {
		t.Error("it ended, or few ballots were begun:", decided, blocks)
	}
}

// What was decided by a part of a schedule is what the whole of it decides.
func TestP6DecisionsStand(t *testing.T) {
	r := rand.New(rand.NewSource(7))
	for range 60 {
		values, schedule := valueLists()[r.Intn(6)], mixedSchedule(r, 100)
		last := []int{-1, -1, -1, -1}
		for size := range len(schedule) + 1 {
			decided := wantRun(t, "part", values, schedule[:size])
			for host, n := range last {
				if n != -1 && decided[host] != n {
					t.Fatal("another one later:", last, decided, schedule[:size])
				}
			}
			last = decided
		}
	}
}

// paxosState is all that there is of a run: tries, blocks, and how many ballots each host may still begin.
type paxosState struct {
	tries  [4]impl.Px
	blocks [4]impl.Block
	left   [4]int
}

// begin has a host begin the next ballot; what it had under way is forgotten, as by a host that crashed.
func (s paxosState) begin(t *testing.T, host, ver, value int) paxosState {
	t.Helper()
	ballot, code := impl.NextBallot(host, ver, s.blocks[:])
	wantOK(t, "NextBallot", code)
	s.tries[host], code = impl.PxStart(host, ver, ballot, value)
	wantOK(t, "PxStart", code)
	s.left[host]--
	return s
}

func (s paxosState) step(t *testing.T, host int) paxosState {
	t.Helper()
	p, blocks, code := impl.PxStep(s.tries[host], s.blocks[:])
	wantOK(t, "PxStep", code)
	s.tries[host] = p
	copy(s.blocks[:], blocks)
	return s
}

func (s paxosState) decided() []int {
	out := []int{-1, -1, -1, -1}
	for host, p := range s.tries {
		if p.Phase == impl.PxDone {
			out[host] = p.Value
		}
	}
	return out
}

// following are the states that one host's step, or its new beginning, may lead to.
func (s paxosState) following(t *testing.T, ver int, values []int) []paxosState {
	t.Helper()
	var out []paxosState
	for host, p := range s.tries {
		if p.Phase >= impl.PxWrite1 && p.Phase <= impl.PxRead2 {
			out = append(out, s.step(t, host))
		}
		if p.Phase != impl.PxDone && s.left[host] > 0 {
			out = append(out, s.begin(t, host, ver, values[host]))
		}
	}
	return out
}

// Every order there is of a few hosts with a few ballots each, in a version that others' blocks are behind.
func TestP6EveryOrder(t *testing.T) {
	values := []int{10, 20, 30, 40}
	for _, c := range []struct {
		left   [4]int
		blocks [4]impl.Block
	}{
		{[4]int{3, 3, 0, 0}, [4]impl.Block{}},
		{[4]int{0, 2, 0, 3}, [4]impl.Block{{Ver: 6, Mbal: 900, Bal: 900, Inp: 99}, {}, {}, {Ver: 6, Mbal: 700, Bal: 3, Inp: 98}}},
		{[4]int{1, 1, 1, 0}, [4]impl.Block{}},
		{[4]int{2, 0, 1, 1}, [4]impl.Block{}},
	} {
		todo := []paxosState{{left: c.left, blocks: c.blocks}}
		seen := map[paxosState]bool{todo[0]: true}
		agreed := map[int]int{}
		for len(todo) > 0 {
			s := todo[len(todo)-1]
			todo = todo[:len(todo)-1]
			decided := s.decided()
			wantAgreement(t, "every order", values, decided)
			for _, n := range decided {
				agreed[n]++
			}
			for _, next := range s.following(t, 7, values) {
				if !seen[next] {
					seen[next] = true
					todo = append(todo, next)
				}
			}
		}
		for host, left := range c.left {
			if left > 0 && agreed[values[host]] == 0 {
				t.Error("nobody ever decided the value of host", host)
			}
		}
		if len(seen) < 10000 {
			t.Error("few orders:", len(seen))
		}
	}
}

// Several tries of one host are under way at once, as where a host was thought dead; ballots are any of its own, also such that were begun already.
func TestP6TriesOfOneHostSideBySide(t *testing.T) {
	r := rand.New(rand.NewSource(8))
	decisions := 0
	for range 20000 {
		blocks, tries := make([]impl.Block, 4), []impl.Px(nil)
		var values, decided []int
		for range 2 + r.Intn(5) {
			host, value := r.Intn(4), r.Intn(1000)
			p, code := impl.PxStart(host, 0, 4*(1+r.Intn(4))+host, value)
			wantOK(t, "PxStart", code)
			tries, values = append(tries, p), append(values, value)
		}
		for range 200 {
			i := r.Intn(len(tries))
			for range 1 + r.Intn(8) {
				if tries[i].Phase >= impl.PxDone {
					break
				}
				var code int
				tries[i], blocks, code = impl.PxStep(tries[i], blocks)
				wantOK(t, "PxStep", code)
			}
		}
		for _, p := range tries {
			if p.Phase == impl.PxDone {
				decided = append(decided, p.Value)
			}
		}
		decisions += len(decided)
		wantAgreement(t, "side by side", values, decided)
	}
	if decisions < 20000 {
		t.Error("few decisions:", decisions)
	}
}

func TestP6RunsOfManySteps(t *testing.T) {
	r := rand.New(rand.NewSource(9))
	values := []int{10, 20, 30, 40}
	for _, schedule := range [][]int{repeated(0, 4096), repeated(3, 4096), mixedSchedule(r, 4095), mixedSchedule(r, 4096)} {
		wantRun(t, "many", values, schedule)
	}
	for _, size := range []int{4097, 4098, 8192} {
		for _, list := range [][]int{values, {-1, 20, 30, 40}, {1}, nil} {
			wantNoRun(t, "schedule of "+strconv.Itoa(size), list, repeated(3, size), impl.ErrLong)
			wantNoRun(t, "schedule of "+strconv.Itoa(size), list, repeated(4, size), impl.ErrLong)
		}
		wantNoRun(t, "values of "+strconv.Itoa(size), repeated(1, size), nil, impl.ErrLong)
		wantNoRun(t, "values of "+strconv.Itoa(size), repeated(-1, size), []int{4}, impl.ErrLong)
	}
	wantNoRun(t, "4096 values", repeated(1, 4096), []int{4}, impl.ErrBad)
	wantNoRun(t, "4096 hosts that are none", values, repeated(4, 4096), impl.ErrRange)
}

// wantNoRun asks for a code with lists that are empty.
func wantNoRun(t *testing.T, where string, values, schedule []int, want int) {
	t.Helper()
	decided, blocks, code := impl.RunPaxos(values, schedule)
	if len(decided) != 0 || len(blocks) != 0 || code != want {
		t.Errorf("%s: %v %v with code %d, not %d", where, decided, blocks, code, want)
	}
}

func TestP6RunsThatAreRefused(t *testing.T) {
	right := []int{10, 20, 30, 40}
	for _, schedule := range [][]int{nil, {0, 1}, {4}, {-1, 0}} {
		for _, n := range wrongNumbers() {
			for place := range 4 {
				values := slices.Clone(right)
				values[place] = n
				wantNoRun(t, "value "+strconv.Itoa(n), values, schedule, impl.ErrBad)
			}
		}
		for _, size := range []int{0, 1, 3, 5, 8} {
			wantNoRun(t, "values of "+strconv.Itoa(size), make([]int, size), schedule, impl.ErrBad)
		}
	}
	for _, n := range []int{-1, 4, 1 << 32, least, greatest} {
		for place := range 9 {
			schedule := repeated(2, 9)
			schedule[place] = n
			wantNoRun(t, "host "+strconv.Itoa(n), right, schedule, impl.ErrRange)
		}
		wantNoRun(t, "host "+strconv.Itoa(n), right, []int{n}, impl.ErrRange)
	}
	for _, n := range []int{0, mostNumber} {
		wantRun(t, "values", []int{n, n, n, n}, []int{0, 3, 3, 0, 1, 2})
	}
}
