package tests

import (
	"fmt"
	"math/rand"
	"slices"
	"strings"
	"testing"

	"loop.example/g00456/impl"
)

// Promise 18, of lines: p18_reckoning_test.go says what is asked behind them.

func TestP18AllThatOtherTestsSay(t *testing.T) {
	for i, lines := range lineLists() {
		for k := range len(lines) + 1 {
			// There may be no time left for anybody to seem dead.
			w, _, _ := impl.RunLines(lines[:k])
			if w.Time <= 999940 {
				wantWhole(t, fmt.Sprint("list ", i, ", first ", k), lines[:k])
			}
		}
		follow(t, lines)
		if t.Failed() {
			return
		}
	}
}

// Long walks, and behind each line of them all that is promised.
func TestP18Walks(t *testing.T) {
	met, long := map[string]int{}, 0
	for seed := range int64(40) {
		lines := anyLines(rand.New(rand.NewSource(1800+seed)), 60)
		_, said := wantLines(t, fmt.Sprint("seed ", seed), lines)
		for k := range len(lines) + 1 {
			wantWhole(t, fmt.Sprint("seed ", seed, ", first ", k), lines[:k])
		}
		follow(t, lines)
		if t.Failed() {
			t.Fatalf("%q", lines)
		}
		_, parts := linesRunBy(lines)
		for k, line := range lines {
			if words := wordsIn(line); len(words) > 0 && len(parts[k]) > 0 {
				met[words[0]+" "+parts[k][0]]++
			}
		}
		if len(said) > 60 {
			long++
		}
	}
	for _, want := range []string{"open ok", "open error open", "open error held", "host ok", "host error closed", "crash ok", "crash error closed", "close ok", "close error closed", "renew ok", "renew error closed", "renew error fenced", "ticks ok"} {
		if met[want] < 10 {
			t.Error("met too little:", want, met[want])
		}
	}
	if long < 10 {
		t.Error("few said much:", long)
	}
}

// Walks from where an image has no room any more: what it refuses its guest has not, either.
func TestP18FullImages(t *testing.T) {
	full := 0
	for seed := range int64(16) {
		r := rand.New(rand.NewSource(1850 + seed))
		lines := anyLines(r, 60, append(usedUpLines(), fmt.Sprint("host 0 write ", r.Intn(12), " 9"))...)
		_, said := wantLines(t, fmt.Sprint("seed ", seed), lines)
		for _, s := range said {
			full += numberOf(s == "full")
		}
		for k := len(usedUpLines()); k <= len(lines); k += 1 + r.Intn(8) {
			wantWhole(t, fmt.Sprint("seed ", seed, ", first ", k), lines[:k])
		}
		follow(t, lines)
		if t.Failed() {
			t.Fatalf("%q", lines)
		}
	}
	if full < 20 {
		t.Error("few were refused:", full)
	}
}

// crashSettings are what a host may have done ahead of a crash, and requests of each kind that do something there.
func crashSettings() []dialogue {
	return []dialogue{
		{[]string{"open 0"}, []string{"write 1 7", "zero 3", "resize 3", "resize 9", "create a", "read 1", "list", "revert a"}},
		{[]string{"open 0", "host 0 write 1 5", "host 0 write 2 6", "host 0 create a", "host 0 write 1 7", "host 0 create b", "host 0 resize 8"},
			[]string{"write 1 8", "write 2 8", "write 7 8", "zero 1", "zero 2", "zero 0", "resize 0", "resize 2", "resize 12", "create c", "create a", "delete a", "delete b", "revert a", "revert b", "list"}},
		{usedUpLines(), []string{"write 3 9", "resize 5", "delete a", "zero 3"}},
	}
}

// A host crashes in each step of each kind of request, and with each number of writes that survive; itself at once, or another one when it seems dead, opens and finds all of it, and goes on.
func TestP18CrashesInEachStep(t *testing.T) {
	seen := map[bool]int{}
	for i, s := range crashSettings() {
		before, _ := wantLines(t, "ahead of it", s.lines)
		for _, request := range s.said {
			q, _ := requestIn(request)
			count, moves, r := crashPlan(before, 0, q)
			done, _ := guestDoneBy(before.Guest, q)
			for _, step := range append(numbersTo(moves+1), 100) {
				for keep := range count + 2 {
					lines := append(slices.Clone(s.lines), fmt.Sprint("crash 0 ", step, " ", keep, " ", request))
					where := fmt.Sprint("setting ", i, ": ", lines[len(lines)-1])
					w := wantWhole(t, where, lines)
					if (w.Maybe == q) != (r.Code == impl.OK) {
						t.Error(where, "maybe", named(w.Maybe))
					}
					other := 1 + (step+keep)%3
					wantFoundByLines(t, where, lines, other)
					for _, more := range [][]string{{"open 0", "guest"}, {"ticks 59", "open 1", "ticks 1", "open 1", "guest"}} {
						got, _ := wantLines(t, where, append(slices.Clone(lines), more...))
						wantCounted(t, where, got)
						if !alikeGuests(got.Guest, before.Guest) && !alikeGuests(got.Guest, done) {
							t.Error(where, "then", more, "is", got.Guest)
						}
						seen[alikeGuests(got.Guest, done)]++
					}
				}
			}
			if t.Failed() {
				return
			}
		}
	}
	if seen[true] < 300 || seen[false] < 300 {
		t.Error("few of one sort:", seen)
	}
}

// One crash behind the other, in each step, with takeovers between by all hosts: as many as 60 lines have room for.
func TestP18CrashesAndTakeovers(t *testing.T) {
	requests := []string{"write 1 ?", "create s", "write 1 ?", "resize 7", "write 6 ?", "delete s", "write 0 ?", "zero 1", "revert s", "resize 4"}
	for first := range 14 {
		for keep := range 5 {
			stride := 1 + (first+keep)%3
			var lines []string
			for turn := 0; len(lines) < 54; turn++ {
				host := turn * stride % 4
				request := strings.ReplaceAll(requests[(turn+first)%len(requests)], "?", fmt.Sprint(100+turn))
				lines = append(lines, fmt.Sprint("open ", host), fmt.Sprint("host ", host, " write 2 ", turn), fmt.Sprint("crash ", host, " ", (first+turn*stride)%14, " ", (keep+turn)%5, " ", request), "ticks 60")
			}
			where := fmt.Sprint("from step ", first, ", keep ", keep)
			wantLines(t, where, lines)
			follow(t, lines)
			for k := 0; k <= len(lines); k += 1 + (first+keep)%4 {
				wantWhole(t, fmt.Sprint(where, ", first ", k), lines[:k])
			}
			if t.Failed() {
				t.Fatalf("%q", lines)
			}
		}
	}
}

// Who opens behind a crash crashes itself, again and again, and never does anything: what waited is found whole or not at all.
func TestP18CrashesBehindCrashes(t *testing.T) {
	for step := range 16 {
		for keep := range 5 {
			lines := []string{"open 0", "host 0 write 1 5", "host 0 create s", fmt.Sprint("crash 0 ", step, " ", keep, " write 1 6")}
			for turn := range 8 {
				host := (turn*3 + step) % 4
				lines = append(lines, "ticks 60", fmt.Sprint("open ", host), fmt.Sprint("crash ", host, " ", (step+turn)%16, " ", turn%5, " ", []string{"read 1", "list", "delete none", "write 9 1"}[turn%4]))
			}
			where := fmt.Sprint("step ", step, ", keep ", keep)
			w, _ := wantLines(t, where, lines)
			if g := w.Guest.Values; g[1] != 5 && g[1] != 6 || !slices.Equal(w.Guest.Shots[0].Values, []int{0, 5, 0, 0, 0, 0}) {
				t.Error(where, w.Guest)
			}
			for k := range lines {
				wantWhole(t, fmt.Sprint(where, ", first ", k), lines[:k])
			}
			wantFoundByLines(t, where, lines, step%4)
			follow(t, lines)
		}
	}
}

// A host that was cut off for long, and is asked only then, has done nothing of what it is asked: somebody else may have taken over.
func TestP18WhoWasCutOff(t *testing.T) {
	for _, wait := range []string{"ticks 10", "ticks 60", "ticks 100000"} {
		for _, request := range []string{"host 0 write 1 9", "host 0 create x", "crash 0 100 100 write 1 9", "renew 0", "close 0", "host 0 list"} {
			for _, other := range []string{"open 1", "leader"} {
				lines := []string{"open 0", "host 0 write 1 5", wait, other, "host 1 write 1 6", request, request, "guest", "host 1 read 1"}
				_, said := wantLines(t, request, lines)
				wantWhole(t, request, lines)
				follow(t, lines)
				if said[5] != "error fenced" || said[6] != "error closed" {
					t.Errorf("%q behind %q: %q", request, wait, said)
				}
				took := other == "open 1" && wait != "ticks 10"
				if value := said[len(said)-1]; took != (value == "ok 6") {
					t.Errorf("%q behind %q, %q: %q", request, wait, other, said)
				}
			}
		}
	}
}

// Each order of a few lines, from a plain world: whatever comes.
func TestP18AllOrdersOfAFewLines(t *testing.T) {
	few := []string{"open 0", "open 1", "host 0 write 1 5", "host 1 create s", "crash 0 5 1 write 1 6", "crash 1 3 1 zero 1", "close 0", "ticks 60"}
	lists := [][]string{nil}
	seen := map[string]int{}
	for range 6 {
		var next [][]string
		for _, lines := range lists {
			for _, line := range few {
				more := append(slices.Clone(lines), line)
				w, _, _ := impl.RunLines(more)
				if key := worldKey(w); seen[key] == 0 {
					seen[key]++
					next = append(next, more)
					wantWhole(t, fmt.Sprintf("%q", more), more)
					follow(t, more)
				}
			}
			if t.Failed() {
				return
			}
		}
		lists = next
	}
	if len(seen) < 500 {
		t.Error("few worlds:", len(seen))
	}
}
