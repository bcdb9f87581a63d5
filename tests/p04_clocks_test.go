package tests

import (
	"math/rand"
	"sort"
	"testing"

	"loop.example/g00456/impl"
)

// Promise 4: whoever seems dead to another host has fenced itself, and what it sent has come or gone, however both clocks drift.

// localBy, latestBy, earliestBy, boundsBy and rightBy reckon in whole numbers, as the document says, without the program.
func localBy(k impl.Clock, t int) int {
	return k.Offset + t*(1000+k.Rate)/1000
}

func latestBy(drift, local int) int {
	n, by := (local+1)*1000, 1000-drift
	if n%by != 0 {
		return n/by + 1
	}
	return n / by
}

func earliestBy(drift, local int) int {
	return (local - 1) * 1000 / (1000 + drift)
}

func boundsBy(c impl.Config) bool {
	return c.Fail >= 1 && c.Fail <= 10000 && c.Dead >= 1 && c.Dead <= 100000 && c.Delay >= 0 && c.Delay <= 1000 && c.Drift >= 0 && c.Drift <= 500
}

func rightBy(c impl.Config) bool {
	return boundsBy(c) && latestBy(c.Drift, c.Fail)+c.Delay < earliestBy(c.Drift, c.Dead)
}

func wantNumber(t *testing.T, where string, got, code, want, wantCode int) {
	t.Helper()
	if got != want || code != wantCode {
		t.Errorf("%s: %d with code %d, not %d with %d", where, got, code, want, wantCode)
	}
}

func TestP4LocalByHand(t *testing.T) {
	for _, c := range []struct{ offset, rate, at, want int }{
		{0, 0, 0, 0},
		{0, 0, 1, 1},
		{0, 0, 1000000, 1000000},
		{1000000, 0, 0, 1000000},
		{1000000, 0, 1000000, 2000000},
		{0, 500, 0, 0},
		{0, 500, 1, 1},             // 1.5
		{0, 500, 2, 3},             // exact
		{0, 500, 3, 4},             // 4.5
		{0, 500, 999999, 1499998},  // 1499998.5
		{0, 500, 1000000, 1500000}, // exact
		{1000000, 500, 1000000, 2500000},
		{0, -500, 0, 0},
		{0, -500, 1, 0}, // 0.5
		{0, -500, 2, 1},
		{0, -500, 999999, 499999}, // 499999.5
		{1000000, -500, 1000000, 1500000},
		{0, 1, 999, 999},          // 999.999
		{0, 1, 1000, 1001},        // exact
		{0, 1, 999999, 1000998},   // 1000998.999
		{0, -1, 1, 0},             // 0.999
		{0, -1, 1000, 999},        // exact
		{0, -1, 1001, 999},        // 999.999
		{0, -1, 999999, 998999},   // 998999.001
		{7, 333, 1000, 1340},      // exact
		{7, 333, 1001, 1341},      // 1334.333
		{3, 499, 2, 5},            // 2.998
		{3, -499, 2, 4},           // 1.002
		{999999, 7, 143, 1000143}, // 144.001
	} {
		got, code := impl.LocalOf(impl.Clock{Offset: c.offset, Rate: c.rate}, c.at)
		if got != c.want || code != impl.OK {
			t.Errorf("LocalOf %v: %d %d", c, got, code)
		}
	}
}

func TestP4LocalOutOfBounds(t *testing.T) {
	for _, c := range []struct{ offset, rate, at int }{
		{-1, 0, 5}, {1000001, 0, 5}, {least, 0, 5}, {greatest, 0, 5},
		{5, -501, 5}, {5, 501, 5}, {5, least, 5}, {5, greatest, 5},
		{5, 0, -1}, {5, 0, 1000001}, {5, 0, least}, {5, 0, greatest},
		{-1, -501, -1}, {1000001, 501, 1000001}, {least, least, least}, {greatest, greatest, greatest}, {greatest, least, 0},
	} {
		got, code := impl.LocalOf(impl.Clock{Offset: c.offset, Rate: c.rate}, c.at)
		if got != 0 || code != impl.ErrRange {
			t.Errorf("LocalOf %v: %d %d", c, got, code)
		}
	}
}

func withDrift(drift int) impl.Config {
	return impl.Config{Fail: 10, Dead: 60, Delay: 2, Drift: drift}
}

func TestP4TrueTimesByHand(t *testing.T) {
	for _, c := range []struct{ drift, local, latest, earliest int }{
		{0, 1, 2, 0},
		{0, 2, 3, 1},
		{0, 50000, 50001, 49999},
		{0, 100000, 100001, 99999},
		{500, 1, 4, 0},
		{500, 2, 6, 0},               // 1000 / 1500
		{500, 3, 8, 1},               // 2000 / 1500
		{500, 4, 10, 2},              // exact
		{500, 100000, 200002, 66666}, // 99999000 / 1500, exact
		{500, 99999, 200000, 66665},  // 99998000 / 1500
		{100, 8, 10, 6},              // exact; 7000 / 1100
		{100, 9, 12, 7},              // 10000 / 900; 8000 / 1100
		{100, 12, 15, 10},            // 13000 / 900; exact
		{100, 13, 16, 10},            // 14000 / 900; 12000 / 1100
		{1, 998, 1000, 996},          // exact; 997000 / 1001
		{1, 999, 1002, 997},          // 1000000 / 999, above 1001; 998000 / 1001
		{1, 1001, 1004, 999},         // 1002000 / 999; 1000000 / 1001, below 999.001
		{1, 1002, 1005, 1000},        // 1003000 / 999; exact
		{1, 100000, 100102, 99899},   // 100001000 / 999, above 100101; 99999000 / 1001
		{499, 500, 1000, 332},        // exact; 499000 / 1499
		{499, 1500, 2997, 1000},      // 1501000 / 501, above 2996; exact
		{333, 666, 1000, 498},        // exact; 665000 / 1333
		{333, 1334, 2002, 1000},      // 1335000 / 667, above 2001; exact
		{10, 10, 12, 8},              // 11000 / 990; 9000 / 1010
		{10, 60, 62, 58},             // 61000 / 990; 59000 / 1010
	} {
		got, code := impl.LatestTrue(withDrift(c.drift), c.local)
		if got != c.latest || code != impl.OK {
			t.Errorf("LatestTrue %v: %d %d", c, got, code)
		}
		got, code = impl.EarliestTrue(withDrift(c.drift), c.local)
		if got != c.earliest || code != impl.OK {
			t.Errorf("EarliestTrue %v: %d %d", c, got, code)
		}
	}
}

// Configurations that ConfigOK refuses, though they are in their bounds, are reckoned with.
func TestP4TrueTimesHangOnDriftAlone(t *testing.T) {
	for _, c := range []impl.Config{{Fail: 1, Dead: 1, Drift: 100}, {Fail: 10000, Dead: 1, Delay: 1000, Drift: 100}, {Fail: 1, Dead: 100000, Delay: 0, Drift: 100}} {
		got, code := impl.LatestTrue(c, 9)
		wantNumber(t, "LatestTrue", got, code, 12, impl.OK)
		got, code = impl.EarliestTrue(c, 13)
		wantNumber(t, "EarliestTrue", got, code, 10, impl.OK)
	}
}

func TestP4TrueTimesOutOfBounds(t *testing.T) {
	for _, drift := range []int{0, 1, 500} {
		for _, local := range []int{0, -1, 100001, 100002, least, greatest} {
			got, code := impl.LatestTrue(withDrift(drift), local)
			wantNumber(t, "LatestTrue", got, code, 0, impl.ErrRange)
			got, code = impl.EarliestTrue(withDrift(drift), local)
			wantNumber(t, "EarliestTrue", got, code, 0, impl.ErrRange)
		}
	}
}

func TestP4ConfigByHand(t *testing.T) {
	for _, c := range []struct {
		config impl.Config
		want   bool
	}{
		{impl.Config{Fail: 1, Dead: 2}, false}, // 2 above 1
		{impl.Config{Fail: 1, Dead: 3}, false}, // 2 and 2
		{impl.Config{Fail: 1, Dead: 4}, true},  // 2 less than 3
		{impl.Config{Fail: 1, Dead: 4, Delay: 1}, false},
		{impl.Config{Fail: 1, Dead: 5, Delay: 1}, true},
		{impl.Config{Fail: 1, Dead: 1}, false},
		{impl.Config{Fail: 1, Dead: 100000, Delay: 1000, Drift: 500}, true},
		{impl.Config{Fail: 10000, Dead: 11001, Delay: 1000}, false}, // 11001 above 11000
		{impl.Config{Fail: 10000, Dead: 11002, Delay: 1000}, false}, // 11001 and 11001
		{impl.Config{Fail: 10000, Dead: 11003, Delay: 1000}, true},
		{impl.Config{Fail: 10000, Dead: 31503, Delay: 1000, Drift: 500}, false}, // 21002 above 21001
		{impl.Config{Fail: 10000, Dead: 31504, Delay: 1000, Drift: 500}, false}, // 21002 and 21002, exact
		{impl.Config{Fail: 10000, Dead: 31505, Delay: 1000, Drift: 500}, false}, // 21002 and 21002, with a rest
		{impl.Config{Fail: 10000, Dead: 31506, Delay: 1000, Drift: 500}, true},  // 21002 less than 21003
		{impl.Config{Fail: 10000, Dead: 100000, Delay: 1000, Drift: 500}, true},
		{impl.Config{Fail: 10, Dead: 60, Delay: 2, Drift: 10}, true},
		{impl.Config{Fail: 10, Dead: 60, Delay: 45, Drift: 10}, true},  // 12 and 45, less than 58
		{impl.Config{Fail: 10, Dead: 60, Delay: 46, Drift: 10}, false}, // 12 and 46, and 58
		{impl.Config{Fail: 10, Dead: 60, Delay: 47, Drift: 10}, false},
		{impl.Config{Fail: 60, Dead: 10, Delay: 2, Drift: 10}, false},
	} {
		if impl.ConfigOK(c.config) != c.want {
			t.Error("ConfigOK", c.config)
		}
	}
}

// edgeConfigs have the least, a middle and the greatest of each number.
func edgeConfigs() []impl.Config {
	var out []impl.Config
	for _, fail := range []int{1, 10, 10000} {
		for _, dead := range []int{1, 60, 100000} {
			for _, delay := range []int{0, 2, 1000} {
				for _, drift := range []int{0, 10, 500} {
					out = append(out, impl.Config{Fail: fail, Dead: dead, Delay: delay, Drift: drift})
				}
			}
		}
	}
	return out
}

// wrongConfigs have one number or more out of its bounds.
func wrongConfigs() []impl.Config {
	var out []impl.Config
	add := func(set func(c *impl.Config, n int), numbers ...int) {
		for _, n := range numbers {
			c := impl.Config{Fail: 10, Dead: 60, Delay: 2, Drift: 10}
			set(&c, n)
			out = append(out, c)
		}
	}
	add(func(c *impl.Config, n int) { c.Fail = n }, 0, -1, 10001, least, greatest)
	add(func(c *impl.Config, n int) { c.Fail, c.Dead = n, 100000 }, 0, 10001)
	add(func(c *impl.Config, n int) { c.Dead = n }, 0, -1, 100001, least, greatest)
	add(func(c *impl.Config, n int) { c.Delay = n }, -1, 1001, least, greatest)
	add(func(c *impl.Config, n int) { c.Delay, c.Dead = n, 100000 }, -1, 1001)
	add(func(c *impl.Config, n int) { c.Drift = n }, -1, 501, 1000, 1001, -1000, -1001, least, greatest)
	add(func(c *impl.Config, n int) { c.Drift, c.Dead = n, 100000 }, -1, 501, 999)
	add(func(c *impl.Config, n int) { *c = impl.Config{Fail: n, Dead: n, Delay: n, Drift: n} }, 0, -1, 100001, least, greatest)
	return out
}

func TestP4BoundsOfAConfig(t *testing.T) {
	for _, c := range edgeConfigs() {
		if impl.ConfigOK(c) != rightBy(c) {
			t.Error("ConfigOK", c)
		}
		for _, n := range []int{1, 77, 100000} {
			got, code := impl.LatestTrue(c, n)
			wantNumber(t, "LatestTrue", got, code, latestBy(c.Drift, n), impl.OK)
			got, code = impl.EarliestTrue(c, n)
			wantNumber(t, "EarliestTrue", got, code, earliestBy(c.Drift, n), impl.OK)
			got, code = impl.FenceAt(c, n)
			wantNumber(t, "FenceAt", got, code, n+c.Fail, impl.OK)
			dead, code := impl.SeemsDead(c, 0, n)
			wantNumber(t, "SeemsDead", numberOf(dead), code, numberOf(n >= c.Dead), impl.OK)
		}
	}
}

// ErrBad is ahead of ErrRange, whatever the other number is.
func TestP4ConfigsOutOfBounds(t *testing.T) {
	for _, c := range wrongConfigs() {
		if impl.ConfigOK(c) {
			t.Error("ConfigOK", c)
		}
		for _, n := range []int{1, 50, 0, -1, 100001, 10000001, least, greatest} {
			got, code := impl.LatestTrue(c, n)
			wantNumber(t, "LatestTrue", got, code, 0, impl.ErrBad)
			got, code = impl.EarliestTrue(c, n)
			wantNumber(t, "EarliestTrue", got, code, 0, impl.ErrBad)
			got, code = impl.FenceAt(c, n)
			wantNumber(t, "FenceAt", got, code, 0, impl.ErrBad)
			for _, now := range []int{n, 0, 10000000, 10000001, least, greatest} {
				dead, code := impl.SeemsDead(c, n, now)
				wantNumber(t, "SeemsDead", numberOf(dead), code, 0, impl.ErrBad)
			}
		}
	}
}

func TestP4Fence(t *testing.T) {
	for _, c := range []struct{ fail, renewed, want, code int }{
		{10, 0, 10, impl.OK}, {1, 0, 1, impl.OK}, {10000, 0, 10000, impl.OK}, {10, 30, 40, impl.OK},
		{10, 9999999, 10000009, impl.OK}, {1, 10000000, 10000001, impl.OK}, {10000, 10000000, 10010000, impl.OK},
		{10, -1, 0, impl.ErrRange}, {10, 10000001, 0, impl.ErrRange}, {10, least, 0, impl.ErrRange}, {10, greatest, 0, impl.ErrRange},
	} {
		// Dead 1: a configuration that ConfigOK refuses fences, too.
		for _, dead := range []int{1, 100000} {
			got, code := impl.FenceAt(impl.Config{Fail: c.fail, Dead: dead}, c.renewed)
			if got != c.want || code != c.code {
				t.Errorf("FenceAt %v: %d %d", c, got, code)
			}
		}
	}
}

func TestP4SeemsDead(t *testing.T) {
	for _, c := range []struct {
		dead, seen, now int
		want            bool
		code            int
	}{
		{60, 0, 0, false, impl.OK}, {60, 0, 59, false, impl.OK}, {60, 0, 60, true, impl.OK}, {60, 0, 61, true, impl.OK},
		{60, 5, 5, false, impl.OK}, {60, 5, 64, false, impl.OK}, {60, 5, 65, true, impl.OK},
		{1, 5, 5, false, impl.OK}, {1, 5, 6, true, impl.OK}, {1, 0, 10000000, true, impl.OK},
		{100000, 7, 100006, false, impl.OK}, {100000, 7, 100007, true, impl.OK}, {100000, 0, 10000000, true, impl.OK},
		{100000, 9900000, 10000000, true, impl.OK}, {100000, 9900001, 10000000, false, impl.OK},
		{1, 10000000, 10000000, false, impl.OK}, {1, 9999999, 10000000, true, impl.OK},
		{60, -1, 5, false, impl.ErrRange}, {60, -1, -1, false, impl.ErrRange}, {60, -100, 50, false, impl.ErrRange},
		{60, 10000001, 10000001, false, impl.ErrRange}, {60, 10000001, 10000000, false, impl.ErrRange}, {60, 10000001, 10000100, false, impl.ErrRange},
		{60, 5, 4, false, impl.ErrRange}, {60, 100, 0, false, impl.ErrRange}, {60, 1, -1, false, impl.ErrRange}, {60, 0, -1, false, impl.ErrRange},
		{60, 0, 10000001, false, impl.ErrRange}, {60, 10000000, 10000001, false, impl.ErrRange}, {60, 10000000, 9999999, false, impl.ErrRange},
		{60, least, greatest, false, impl.ErrRange}, {60, greatest, least, false, impl.ErrRange}, {60, least, least, false, impl.ErrRange}, {60, greatest, greatest, false, impl.ErrRange},
		{60, 0, greatest, false, impl.ErrRange}, {60, 0, least, false, impl.ErrRange}, {60, least, 0, false, impl.ErrRange}, {60, greatest, 0, false, impl.ErrRange},
	} {
		// Fail 10000: a configuration that ConfigOK refuses tells who seems dead, too.
		for _, fail := range []int{1, 10000} {
			got, code := impl.SeemsDead(impl.Config{Fail: fail, Dead: c.dead}, c.seen, c.now)
			if got != c.want || code != c.code {
				t.Errorf("SeemsDead %v: %v %d", c, got, code)
			}
		}
	}
}

func TestP4TrueTimesAreWhatWholeNumbersGive(t *testing.T) {
	for drift := range 501 {
		c := withDrift(drift)
		for local := 1; local <= 100000; local++ {
			late, code := impl.LatestTrue(c, local)
			if late != latestBy(drift, local) || code != impl.OK {
				t.Fatal("LatestTrue", drift, local, late, code)
			}
			early, code := impl.EarliestTrue(c, local)
			if early != earliestBy(drift, local) || code != impl.OK {
				t.Fatal("EarliestTrue", drift, local, early, code)
			}
		}
	}
}

func TestP4LocalTimesAreWhatWholeNumbersGive(t *testing.T) {
	for rate := -500; rate <= 500; rate++ {
		look := func(k impl.Clock, at int) {
			if got, code := impl.LocalOf(k, at); got != localBy(k, at) || code != impl.OK {
				t.Fatal("LocalOf", k, at, got, code)
			}
		}
		for at := 0; at <= 3000; at++ {
			look(impl.Clock{Rate: rate}, at)
			look(impl.Clock{Offset: 1000000 - at, Rate: rate}, 1000000-at)
		}
		for at := 0; at <= 1000000; at += 97 {
			look(impl.Clock{Offset: at / 2, Rate: rate}, at)
		}
	}
}

func TestP4ConfigsAreWhatWholeNumbersGive(t *testing.T) {
	r := rand.New(rand.NewSource(6))
	right := 0
	for range 200000 {
		c := impl.Config{Fail: 1 + r.Intn(10000)>>r.Intn(14), Delay: r.Intn(1001) >> r.Intn(11), Drift: r.Intn(501) >> r.Intn(10)}
		for _, dead := range []int{leastDead(c) - 2, leastDead(c) - 1, leastDead(c), leastDead(c) + 1, 1 + r.Intn(100000)} {
			c.Dead = dead
			if impl.ConfigOK(c) != rightBy(c) {
				t.Fatal("ConfigOK", c)
			}
			right += numberOf(rightBy(c))
		}
	}
	if right < 400000 || right > 600000 {
		t.Error("too few configurations of one sort:", right)
	}
}

// leastDead is the least Dead that whole numbers allow with the rest of c.
func leastDead(c impl.Config) int {
	return 1 + sort.Search(100000, func(n int) bool {
		c.Dead = n + 1
		return rightBy(c)
	})
}

// A clock that drifts no more than Drift shows no fewer ticks behind LatestTrue, and no more ahead of EarliestTrue.
func TestP4TrueTimesBoundWhatAClockShows(t *testing.T) {
	shown := func(k impl.Clock, from, to int) int {
		a, _ := impl.LocalOf(k, from)
		b, _ := impl.LocalOf(k, to)
		return b - a
	}
	for _, drift := range []int{0, 1, 7, 10, 100, 333, 500} {
		for _, rate := range []int{-drift, -drift / 2, 0, drift / 2, drift} {
			for _, local := range []int{1, 2, 3, 10, 59, 100, 999, 10000, 100000} {
				late, _ := impl.LatestTrue(withDrift(drift), local)
				early, _ := impl.EarliestTrue(withDrift(drift), local)
				for from := range 1000 {
					k := impl.Clock{Offset: from * 3, Rate: rate}
					if shown(k, from, from+late) < local || shown(k, from, from+late+1) < local+1 {
						t.Fatal("LatestTrue is too early", drift, rate, local, from)
					}
					if early > 0 && shown(k, from, from+early-1) >= local {
						t.Fatal("EarliestTrue is too late", drift, rate, local, from)
					}
				}
			}
		}
	}
}

func wantOK(t *testing.T, where string, code int) {
	t.Helper()
	if code != impl.OK {
		t.Fatalf("%s: code %d", where, code)
	}
}

// lease is a host that renews, and another one that sees it at the same true time.
type lease struct {
	config         impl.Config
	owner, watcher impl.Clock
	begin          int
}

// firstTime is the first true time from begin on at which holds says so, which says so from then on.
func (l lease) firstTime(t *testing.T, holds func(time int) bool) int {
	t.Helper()
	const last = 1000000
	n := sort.Search(last-l.begin+1, func(n int) bool { return holds(l.begin + n) })
	if n > last-l.begin {
		t.Fatal("it does not come in time:", l)
	}
	return l.begin + n
}

// fenced is when the owner fences itself.
func (l lease) fenced(t *testing.T) int {
	t.Helper()
	renewed, code := impl.LocalOf(l.owner, l.begin)
	wantOK(t, "LocalOf", code)
	fence, code := impl.FenceAt(l.config, renewed)
	wantOK(t, "FenceAt", code)
	return l.firstTime(t, func(time int) bool {
		local, _ := impl.LocalOf(l.owner, time)
		return local >= fence
	})
}

// dead is when the owner seems dead to the watcher.
func (l lease) dead(t *testing.T) int {
	t.Helper()
	seen, code := impl.LocalOf(l.watcher, l.begin)
	wantOK(t, "LocalOf", code)
	return l.firstTime(t, func(time int) bool {
		local, _ := impl.LocalOf(l.watcher, time)
		dead, code := impl.SeemsDead(l.config, seen, local)
		wantOK(t, "SeemsDead", code)
		return dead
	})
}

// leases are of clocks that run as fast and as slow as the drift allows, and between, and begin wherever within a tick.
func leases(c impl.Config) []lease {
	var out []lease
	rates := []int{-c.Drift, -c.Drift / 3, 0, c.Drift / 2, c.Drift}
	for _, a := range rates {
		for _, b := range rates {
			for _, begin := range []int{0, 1, 2, 3, 17, 333, 499, 998, 1000, 12345, 777777} {
				out = append(out, lease{c, impl.Clock{Offset: begin % 7, Rate: a}, impl.Clock{Offset: 1000000, Rate: b}, begin})
			}
		}
	}
	return out
}

func TestP4WhoeverSeemsDeadHasFencedItself(t *testing.T) {
	for _, fail := range []int{1, 2, 3, 10, 61, 1000, 10000} {
		for _, delay := range []int{0, 1, 2, 30, 1000} {
			for _, drift := range []int{0, 1, 2, 10, 100, 333, 499, 500} {
				c := impl.Config{Fail: fail, Delay: delay, Drift: drift}
				c.Dead = leastDead(c)
				if !impl.ConfigOK(c) {
					t.Fatal("ConfigOK", c)
				}
				for _, l := range leases(c) {
					// What it sent ahead of its fence has come or gone Delay later.
					if fenced, dead := l.fenced(t), l.dead(t); fenced+delay >= dead {
						t.Fatal("it seems dead, and is not done:", l, fenced, dead)
					}
				}
			}
		}
	}
}

// Without the room that ConfigOK asks for a host may seem dead too early, and the leases above would show it.
func TestP4ARefusedConfigWouldBreakTheLease(t *testing.T) {
	for _, c := range []impl.Config{{Fail: 10, Dead: 10}, {Fail: 100, Dead: 120, Drift: 100}, {Fail: 10, Dead: 20, Delay: 30}, {Fail: 1000, Dead: 1500, Drift: 500}} {
		broken := 0
		for _, l := range leases(c) {
			broken += numberOf(l.fenced(t)+c.Delay >= l.dead(t))
		}
		if broken == 0 || impl.ConfigOK(c) {
			t.Error("ConfigOK", c, impl.ConfigOK(c), "broken leases:", broken)
		}
	}
}
