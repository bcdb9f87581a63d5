package tests

import (
	"fmt"
	"math/rand"
	"slices"
	"strings"
	"testing"

	"loop.example/g00456/impl"
)

// Promise 17: what a console says to the first of its lines, if there are no more than it takes, does not hang on the later ones.
// Here stands what the tests of it, and those of promise 18, reckon with: lines that are read and answered without the program. p16_reckoning_test.go has the worlds and does the acts, p14_reckoning_test.go reads requests and tells replies, p15_reckoning_test.go tells guests.

// actWords are the words of kinds 1 to 6.
var actWords = []string{"open", "host", "crash", "close", "renew", "ticks"}

func plainWorldBy() impl.World {
	return newWorldBy(impl.Config{Fail: 10, Dead: 60, Delay: 2, Drift: 10}, 6)
}

// actIn takes at least one word.
func actIn(words []string) (impl.Act, bool) {
	a := impl.Act{Kind: slices.Index(actWords, words[0]) + 1}
	if a.Kind == 0 {
		return a, false
	}
	places, rest := []*int{&a.Host}, words[1:]
	switch a.Kind {
	case 3:
		places = append(places, &a.Step, &a.Keep)
	case 6:
		places[0] = &a.N
	}
	ok := len(rest) >= len(places)
	for i := 0; ok && i < len(places); i++ {
		*places[i], ok = numberIn(rest[i])
	}
	if !ok {
		return a, false
	}
	rest = rest[len(places):]
	if a.Kind == 2 || a.Kind == 3 {
		a.Req, ok = requestIn(strings.Join(rest, " "))
	} else {
		ok = len(rest) == 0
	}
	return a, ok && rightAct(a)
}

// saidBy is what is said to a line, and the world behind it.
func saidBy(w impl.World, line string) (impl.World, []string) {
	words := wordsIn(line)
	switch {
	case len(words) == 0 || words[0][0] == '#':
		return w, nil
	case slices.Equal(words, []string{"guest"}):
		return w, append(guestTextBy(w.Guest), []string{"agree no", "agree yes"}[numberOf(w.Agree)])
	case slices.Equal(words, []string{"leader"}):
		x := leaderIn(w)
		return w, []string{fmt.Sprintf("leader %d version %d generation %d", x.Owner, x.Ver, x.Gen)}
	}
	a, ok := actIn(words)
	if !ok {
		return w, []string{"error form"}
	}
	w, r, code := worldDoneBy(w, a)
	if code != impl.OK {
		return w, []string{"error " + documentCodes()[code].word}
	}
	if a.Kind != 2 {
		return w, []string{"ok"}
	}
	text, _ := replyTextBy(a.Req, r)
	return w, []string{text}
}

// linesRunBy takes no more than 60 lines. What is said stands line by line.
func linesRunBy(lines []string) (impl.World, [][]string) {
	w := plainWorldBy()
	var out [][]string
	for _, line := range lines {
		next, said := saidBy(w, line)
		w, out = next, append(out, said)
	}
	return w, out
}

// linesIn goes byte by byte.
func linesIn(t string) []string {
	var out []string
	begin := 0
	for i := range len(t) {
		if t[i] == 10 {
			out = append(out, t[begin:i])
			begin = i + 1
		}
	}
	if begin < len(t) {
		out = append(out, t[begin:])
	}
	return out
}

// ended has a byte 10 behind each of them.
func ended(lines []string) string {
	text := ""
	for _, line := range lines {
		text += line + "\n"
	}
	return text
}

// wantLines holds both calls against the reckoning, and answers what they said.
func wantLines(t *testing.T, where string, lines []string) (impl.World, []string) {
	t.Helper()
	w, said, code := impl.RunLines(lines)
	want, parts := linesRunBy(lines)
	wantWorld(t, where, w, code, want, impl.OK)
	wantSaid(t, where, said, slices.Concat(parts...))
	if !slices.ContainsFunc(lines, func(line string) bool { return strings.Contains(line, "\n") }) && len(ended(lines)) <= impl.MaxText {
		wantConsole(t, where, ended(lines), ended(said))
	}
	return w, said
}

func wantSaid(t *testing.T, where string, got, want []string) {
	t.Helper()
	if !slices.Equal(got, want) {
		t.Errorf("%s: said\n%.2000q, not\n%.2000q", where, got, want)
	}
}

func wantConsole(t *testing.T, where, text, want string) {
	t.Helper()
	if got, code := impl.Console(text); got != want || code != impl.OK {
		t.Errorf("%s: Console of %.200q: code %d, %.2000q, not %.2000q", where, text, code, got, want)
	}
}

func wantNoLines(t *testing.T, where string, lines []string, want int) {
	t.Helper()
	w, said, code := impl.RunLines(lines)
	wantWorld(t, where, w, code, impl.World{}, want)
	wantSaid(t, where, said, nil)
}

func wantNoConsole(t *testing.T, where, text string, want int) {
	t.Helper()
	if got, code := impl.Console(text); got != "" || code != want {
		t.Errorf("%s: Console of %.200q: code %d, not %d, %.200q", where, text, code, want, got)
	}
}

// lineOf takes an act that has no more than what its line tells.
func lineOf(a impl.Act) string {
	words := []any{actWords[a.Kind-1], a.Host}
	switch a.Kind {
	case 3:
		words = append(words, a.Step, a.Keep)
	case 6:
		words[1] = a.N
	}
	text := strings.TrimSuffix(fmt.Sprintln(words...), "\n")
	if a.Kind == 2 || a.Kind == 3 {
		return text + " " + requestLine(a.Req)
	}
	return text
}

// requestLine tells requests that have no text, too: their lines are none.
func requestLine(q impl.Req) string {
	text := kindWords[q.Kind-1]
	switch {
	case usesValue(q.Kind):
		return fmt.Sprint(text, " ", q.G, " ", q.Value)
	case usesG(q.Kind):
		return fmt.Sprint(text, " ", q.G)
	case usesName(q.Kind):
		return text + " " + q.Name
	}
	return text
}

func linesOfActs(list ...impl.Act) []string {
	var out []string
	for _, a := range list {
		out = append(out, lineOf(a))
	}
	return out
}

// anyLine is mostly one that does something in world w, now and then one that asks, or that is none.
func anyLine(r *rand.Rand, w impl.World) string {
	switch r.Intn(12) {
	case 0:
		return "guest"
	case 1:
		return "leader"
	case 2:
		return oddLines()[r.Intn(len(oddLines()))]
	}
	if len(writersBy(w)) == 0 && r.Intn(2) == 0 {
		return lineOf([]impl.Act{openAct(r.Intn(4)), ticksAct(60)}[r.Intn(2)])
	}
	return lineOf(anyAct(r, w))
}

// anyLines are count of them, the given ones first, each fit for where those ahead of it lead.
func anyLines(r *rand.Rand, count int, first ...string) []string {
	w, _ := linesRunBy(first)
	out := slices.Clone(first)
	for len(out) < count {
		line := anyLine(r, w)
		w, _ = saidBy(w, line)
		out = append(out, line)
	}
	return out
}

// silentLines say nothing.
func silentLines() []string {
	return []string{"", " ", "     ", "#", "##", "# open 0", "#open 0", "  # open 0", " #\t", "# \x00\xff", "#guest", strings.Repeat(" ", 1000), "#" + strings.Repeat("x", 1000)}
}

// oddLines are silent, or none; none of them does anything.
func oddLines() []string {
	return append(silentLines(), "go", "open", "open 4", "open 0 0", "open # 0", "close", "close -1", "renew x", "ticks", "ticks 100001", "ticks 1 1", "host", "host 0", "host 0 go", "host 4 list", "host 0 list 1", "crash", "crash 0 0 0", "crash 0 0 list",
		"crash 0 0 0 0 list", "crash 0 101 0 list", "crash 0 0 101 list", "guest 0", "leader 0", "now", "agree yes", "ok", "error form", "Open 0", "open 00", "open +0", "open -0", "open 0x0", "open\t0", "open 0\t", "\topen 0", "\t", "\r", "open 0 # more", "guest # more", "read 0", "list")
}

func TestP17ReckoningIsRight(t *testing.T) {
	for _, text := range []string{"", "\n", "a", "a\n", "a\nb", "a\n\nb\n", "\n\n", "\na", " \n "} {
		lines := linesIn(text)
		if back := ended(lines); back != text && back != text+"\n" {
			t.Errorf("%q has lines %q", text, lines)
		}
	}
	for _, line := range oddLines() {
		if w, said := saidBy(plainWorldBy(), line); !alikeWorlds(w, plainWorldBy()) || len(said) != 0 && said[0] != "error form" {
			t.Errorf("%q says %q", line, said)
		}
	}
	r := rand.New(rand.NewSource(1700))
	for range 2000 {
		a := anyAct(r, plainWorldBy())
		a.Req.G, a.Req.Value = max(a.Req.G, 0), max(a.Req.Value, 0)
		if _, ok := textBy(a.Req); a.Req != (impl.Req{}) && !ok {
			continue
		}
		if a.Kind == 6 {
			a.Host = 0
		}
		if back, ok := actIn(wordsIn(lineOf(a))); back != a || !ok {
			t.Errorf("%s is read as %s", lineOf(a), actText(back))
		}
	}
}
