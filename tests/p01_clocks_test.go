package tests

import (
	"testing"

	"loop.example/g00456/impl"
)

// Promise 1, of the calls of chapter 4.

// clockAnswer is what any call of chapter 4 answers: a bool counts as 0 or 1, and a call without a code has OK.
type clockAnswer struct{ number, code int }

type clockCall struct {
	name string
	run  func() clockAnswer
}

func numberOf(yes bool) int {
	if yes {
		return 1
	}
	return 0
}

// clockCalls are the calls of chapter 4 with these arguments.
func clockCalls(k impl.Clock, c impl.Config, a, b int) []clockCall {
	return []clockCall{
		{"ConfigOK", func() clockAnswer { return clockAnswer{number: numberOf(impl.ConfigOK(c))} }},
		{"LocalOf", func() (out clockAnswer) { out.number, out.code = impl.LocalOf(k, a); return out }},
		{"LatestTrue", func() (out clockAnswer) { out.number, out.code = impl.LatestTrue(c, a); return out }},
		{"EarliestTrue", func() (out clockAnswer) { out.number, out.code = impl.EarliestTrue(c, a); return out }},
		{"FenceAt", func() (out clockAnswer) { out.number, out.code = impl.FenceAt(c, a); return out }},
		{"SeemsDead", func() clockAnswer {
			dead, code := impl.SeemsDead(c, a, b)
			return clockAnswer{numberOf(dead), code}
		}},
	}
}

// everyClockCall runs f with numbers at, within and beyond each bound, up to the greatest and least integers.
func everyClockCall(f func(c clockCall, k impl.Clock, g impl.Config, a, b int)) {
	numbers := []int{least, least + 1, -501, -500, -1, 0, 1, 2, 60, 500, 501, 1000, 1001, 10000, 10001, 100000, 100001, 1000000, 1000001, 10000000, 10000001, greatest - 1, greatest}
	right := impl.Config{Fail: 10, Dead: 60, Delay: 2, Drift: 10}
	for _, n := range numbers {
		clocks := []impl.Clock{{Offset: n}, {Rate: n}, {Offset: n, Rate: n}, {Offset: 7, Rate: -3}}
		configs := []impl.Config{right, right, right, right}
		configs[0].Fail, configs[1].Dead, configs[2].Delay, configs[3].Drift = n, n, n, n
		configs = append(configs, right, impl.Config{Fail: n, Dead: n, Delay: n, Drift: n})
		for _, a := range numbers {
			for _, b := range []int{a, n} {
				for i, g := range configs {
					k := clocks[i%len(clocks)]
					for _, c := range clockCalls(k, g, a, b) {
						f(c, k, g, a, b)
					}
				}
			}
		}
	}
}

func TestP1ClocksHaveAlikeAnswersToAlikeArguments(t *testing.T) {
	busy := func() {
		impl.LatestTrue(impl.Config{Fail: 1, Dead: 1, Drift: 500}, 99)
		impl.LocalOf(impl.Clock{Rate: -500}, 1)
		impl.ConfigOK(impl.Config{Fail: greatest, Dead: least})
	}
	everyClockCall(func(c clockCall, k impl.Clock, g impl.Config, a, b int) {
		first := c.run()
		busy()
		if second := c.run(); first != second {
			t.Fatal("another answer to alike arguments:", c.name, k, g, a, b, first, second)
		}
	})
}

func TestP1ClocksWithACodeAllElseIsZero(t *testing.T) {
	codes := map[int]int{}
	everyClockCall(func(c clockCall, k impl.Clock, g impl.Config, a, b int) {
		got := c.run()
		codes[got.code]++
		if got.code != impl.OK && got.number != 0 {
			t.Fatal("not zero with a code:", c.name, k, g, a, b, got)
		}
	})
	if len(codes) != 3 || codes[impl.OK] == 0 || codes[impl.ErrBad] == 0 || codes[impl.ErrRange] == 0 {
		t.Error("codes", codes)
	}
}
