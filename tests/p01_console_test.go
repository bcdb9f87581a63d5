package tests

import (
	"fmt"
	"math/rand"
	"slices"
	"strings"
	"testing"

	"loop.example/g00456/impl"
)

// Promise 1, of the calls of chapter 17.

// consoleAnswer is what any of the calls answers; what a call has not stays zero.
type consoleAnswer struct {
	world impl.World
	said  []string
	text  string
	code  int
}

func sameConsoleAnswer(a, b consoleAnswer) bool {
	return alikeWorlds(a.world, b.world) && slices.Equal(a.said, b.said) && a.text == b.text && a.code == b.code
}

func cloneConsoleAnswer(a consoleAnswer) consoleAnswer {
	a.world, a.said = cloneWorld(a.world), slices.Clone(a.said)
	return a
}

func scribbleConsoleAnswer(a consoleAnswer) {
	scribbleWorld(a.world)
	fillUp(a.said, "scribbled")
}

type consoleCall struct {
	name string
	run  func(lines []string) consoleAnswer
}

func consoleCalls() []consoleCall {
	return []consoleCall{
		{"PlainWorld", func([]string) consoleAnswer { return consoleAnswer{world: impl.PlainWorld()} }},
		{"RunLines", func(lines []string) (a consoleAnswer) {
			a.world, a.said, a.code = impl.RunLines(lines)
			return a
		}},
		{"Console", func(lines []string) (a consoleAnswer) {
			a.text, a.code = impl.Console(strings.Join(lines, "\n"))
			return a
		}},
	}
}

// consoleLists are lists of lines, also too many of them, and too long ones.
func consoleLists() [][]string {
	out := append(lineLists(), nil, []string{}, []string{""}, slices.Repeat([]string{""}, 60), slices.Repeat([]string{"guest"}, 61), slices.Repeat([]string{"go"}, impl.MaxList), slices.Repeat([]string{""}, impl.MaxList+1),
		[]string{strings.Repeat("x", impl.MaxText)}, []string{strings.Repeat(" ", impl.MaxText) + "guest"}, slices.Repeat([]string{strings.Repeat("#", impl.MaxText+1)}, 60))
	for seed := range int64(10) {
		out = append(out, anyLines(rand.New(rand.NewSource(100+seed)), 61))
	}
	return out
}

func everyConsoleCall(f func(where string, lines []string, c consoleCall)) {
	for i, lines := range consoleLists() {
		for _, c := range consoleCalls() {
			f(fmt.Sprint(c.name, " of list ", i), lines, c)
		}
	}
}

// consoleBusy is what may be called between two alike calls.
func consoleBusy() {
	impl.RunLines([]string{"open 2", "host 2 create busy", "host 2 write 0 77", "crash 2 5 1 write 1 78", "ticks 99", "open 3", "guest"})
	impl.Console("open 1\nhost 1 resize 2\nguest\nleader\ngo")
	impl.Console(strings.Repeat("go\n", 61))
	impl.RunLines(make([]string, impl.MaxList+1))
	worldsBusy()
}

func TestP1ConsoleLeavesItsLinesAsTheyAre(t *testing.T) {
	everyConsoleCall(func(where string, lines []string, c consoleCall) {
		given := guarded(lines, guard)
		got := c.run(given)
		wantGuarded(t, where, given, lines, guard)
		want := cloneConsoleAnswer(got)
		fillUp(given, guard)
		if !sameConsoleAnswer(got, want) {
			t.Fatal("writing into the argument changed the answer:", where)
		}
		given = guarded(lines, guard)
		scribbleConsoleAnswer(c.run(given))
		wantGuarded(t, where+", written over", given, lines, guard)
	})
}

func TestP1ConsoleHasAlikeAnswersInNewMemory(t *testing.T) {
	everyConsoleCall(func(where string, lines []string, c consoleCall) {
		first := c.run(lines)
		consoleBusy()
		second := c.run(slices.Clone(lines))
		want := cloneConsoleAnswer(second)
		if !sameConsoleAnswer(first, second) {
			t.Fatal("another answer to alike arguments:", where)
		}
		scribbleConsoleAnswer(first)
		if !sameConsoleAnswer(second, want) || !sameConsoleAnswer(c.run(lines), want) {
			t.Fatal("two answers share memory:", where)
		}
	})
}

func TestP1ConsoleSharesNoMemoryWithin(t *testing.T) {
	everyConsoleCall(func(where string, lines []string, c consoleCall) {
		a := c.run(lines)
		was := cloneConsoleAnswer(a)
		wantWorldApart(t, where, worldAnswer{world: a.world})
		if !slices.Equal(a.said, was.said) {
			t.Fatal("what is said is the world's memory:", where)
		}
		a = c.run(lines)
		fillUp(a.said, "scribbled")
		if !alikeWorlds(a.world, was.world) {
			t.Fatal("the world is the memory of what is said:", where)
		}
	})
}

// With a code there is no world, and nothing is said.
func TestP1ConsoleWithACode(t *testing.T) {
	met := map[string]map[int]int{}
	everyConsoleCall(func(where string, lines []string, c consoleCall) {
		a := c.run(lines)
		if met[c.name] == nil {
			met[c.name] = map[int]int{}
		}
		met[c.name][a.code]++
		if a.code != impl.OK && !sameConsoleAnswer(a, consoleAnswer{code: a.code}) {
			t.Fatal("something is told with a code:", where, a.code)
		}
	})
	for name, want := range map[string][]int{"PlainWorld": {impl.OK}, "RunLines": {impl.OK, impl.ErrMany, impl.ErrLong}, "Console": {impl.OK, impl.ErrMany, impl.ErrLong}} {
		for _, code := range want {
			if met[name][code] == 0 {
				t.Error(name, "never answered", code)
			}
		}
		if len(met[name]) != len(want) {
			t.Error(name, "answered other codes:", met[name])
		}
	}
}

func TestP1ConsoleHoldsNilAndEmptyForTheSame(t *testing.T) {
	for _, c := range consoleCalls() {
		if !sameConsoleAnswer(c.run(nil), c.run([]string{})) {
			t.Error("nil and an empty list are told apart:", c.name)
		}
	}
}

// Whatever is handed in, no call panics, and each ends: a line says an error, if it is none, and the others go on.
func TestP1ConsoleTakesAnything(t *testing.T) {
	r := rand.New(rand.NewSource(170))
	var lines []string
	for _, word := range slices.Concat(actWords, kindWords, []string{"guest", "leader", "#", ""}) {
		for _, rest := range []string{"", " ", " 0", " -1", " 0 0 0", " 0 0 0 0 0 0", " \x00", " \xff\xfe", " 0 read", " 0 0 0 write", " 99999999999999999999", " 9223372036854775807 list", " -9223372036854775808", " \n", strings.Repeat(" 0", 9000), strings.Repeat("\xe2\x80", 4000)} {
			lines = append(lines, word+rest)
		}
	}
	for range 300 {
		some := []string{"open 0"}
		for range r.Intn(58) {
			some = append(some, lines[r.Intn(len(lines))])
		}
		some = append(some, "guest")
		w, said, code := impl.RunLines(some)
		wantOK(t, "anything", code)
		wantPromised(t, "anything", w)
		if said[0] != "ok" || !slices.Equal(said[len(said)-2:], []string{"now: 0 0 0 0 0 0", "agree yes"}) && w.Maybe == (impl.Req{}) && len(w.Guest.Values) == 6 {
			t.Errorf("%.500q says %q", some, said)
		}
		impl.Console(strings.Join(some, "\n"))
	}
	for n := range 256 {
		impl.Console(strings.Repeat(string([]byte{byte(n)}), 1+n*n%70000))
		impl.RunLines([]string{string([]byte{byte(n)}), "host " + string([]byte{byte(n)}), "crash 0 0 0 " + string([]byte{byte(n)})})
	}
}
