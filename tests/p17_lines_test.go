package tests

import (
	"fmt"
	"slices"
	"strconv"
	"strings"
	"testing"

	"loop.example/g00456/impl"
)

// What a console says to each kind of line; p17_reckoning_test.go says what it is held against.

func TestP17PlainWorlds(t *testing.T) {
	want, code := impl.NewWorld(impl.Config{Fail: 10, Dead: 60, Delay: 2, Drift: 10}, 6)
	wantOK(t, "NewWorld", code)
	wantWorld(t, "PlainWorld", impl.PlainWorld(), impl.OK, want, impl.OK)
	wantWorld(t, "PlainWorld", impl.PlainWorld(), impl.OK, plainWorldBy(), impl.OK)
	if impl.MaxLines != 60 || !impl.WorldOK(impl.PlainWorld()) {
		t.Error("MaxLines", impl.MaxLines)
	}
	for _, lines := range [][]string{nil, {}, {""}, silentLines()} {
		w, said, code := impl.RunLines(lines)
		wantWorld(t, "nothing was done", w, code, want, impl.OK)
		wantSaid(t, "nothing was asked", said, nil)
	}
}

// dialogue is what lines are, and what is said to all of them.
type dialogue struct {
	lines, said []string
}

func dialogues() []dialogue {
	return []dialogue{
		// An act that is done, and one that has a code.
		{[]string{"open 0"}, []string{"ok"}},
		{[]string{"open 3", "open 3"}, []string{"ok", "error open"}},
		{[]string{"open 3", "open 2", "ticks 59", "open 2", "ticks 1", "open 2"}, []string{"ok", "error held", "ok", "error held", "ok", "ok"}},
		{[]string{"close 0", "open 0", "close 0", "close 0", "open 1"}, []string{"error closed", "ok", "ok", "error closed", "ok"}},
		{[]string{"open 1", "ticks 10", "close 1", "close 1", "open 1"}, []string{"ok", "ok", "error fenced", "error closed", "ok"}},
		{[]string{"renew 2", "open 2", "ticks 9", "renew 2", "ticks 9", "renew 2", "ticks 10", "renew 2", "renew 2"}, []string{"error closed", "ok", "ok", "ok", "ok", "ok", "ok", "error fenced", "error closed"}},
		{[]string{"ticks 0", "ticks 1", "ticks 100000", "ticks 100001"}, []string{"ok", "ok", "ok", "error form"}},
		{append(slices.Repeat([]string{"ticks 100000"}, 10), "ticks 1", "ticks 100000", "ticks 0"), append(slices.Repeat([]string{"ok"}, 10), "error range", "error range", "ok")},
		// Requests: a reply's code is the reply; who may not ask is told so.
		{[]string{"host 0 list", "open 0", "host 1 list", "host 0 list", "ticks 10", "host 0 list", "host 0 list"}, []string{"error closed", "ok", "error closed", "ok 6", "ok", "error fenced", "error closed"}},
		{[]string{"open 1", "host 1 write 5 2147483647", "host 1 read 5", "host 1 read 0", "host 1 read 6", "host 1 write 6 1"}, []string{"ok", "ok", "ok 2147483647", "ok 0", "range", "range"}},
		{[]string{"open 1", "host 1 write 1 7", "host 1 zero 1", "host 1 read 1", "host 1 zero 6", "host 1 resize 8", "host 1 zero 6", "host 1 resize 13", "host 1 list"}, []string{"ok", "ok", "ok", "ok 0", "range", "ok", "ok", "range", "ok 8"}},
		{[]string{"open 1", "host 1 create a", "host 1 create a", "host 1 create c", "host 1 create b", "host 1 create d", "host 1 list", "host 1 delete c", "host 1 delete c", "host 1 revert c", "host 1 revert b", "host 1 list"},
			[]string{"ok", "ok", "twice", "ok", "ok", "many", "ok 6 a c b", "ok", "none", "none", "ok", "ok 6 a b"}},
		// Crashes.
		{[]string{"crash 0 0 0 list", "open 0", "crash 0 0 0 write 1 5", "crash 0 0 0 write 1 5", "renew 0", "guest", "open 0", "guest"}, []string{"error closed", "ok", "ok", "error closed", "error closed", "now: 0 0 0 0 0 0", "agree yes", "ok", "now: 0 0 0 0 0 0", "agree yes"}},
		{[]string{"open 0", "crash 0 100 0 write 1 5", "guest", "open 0", "guest", "host 0 read 1"}, []string{"ok", "ok", "now: 0 0 0 0 0 0", "agree yes", "ok", "now: 0 5 0 0 0 0", "agree yes", "ok 5"}},
		{[]string{"open 2", "crash 2 100 100 read 9", "open 3", "ticks 60", "open 3", "ticks 10", "crash 3 0 0 list"}, []string{"ok", "ok", "error held", "ok", "ok", "ok", "error fenced"}},
		// What guest and leader say.
		{[]string{"guest"}, []string{"now: 0 0 0 0 0 0", "agree yes"}},
		{[]string{"open 0", "host 0 write 2 5", "host 0 create s", "host 0 resize 0", "host 0 create none", "host 0 resize 2", "host 0 write 0 9", "host 0 create now", "guest"},
			[]string{"ok", "ok", "ok", "ok", "ok", "ok", "ok", "ok", "now: 9 0", "s: 0 0 5 0 0 0", "none:", "now: 9 0", "agree yes"}},
		{[]string{"leader", "open 0", "leader", "open 1", "leader", "close 0", "leader", "open 3", "leader", "crash 3 0 0 list", "leader", "open 3", "leader"},
			[]string{"leader -1 version 0 generation 0", "ok", "leader 0 version 1 generation 1", "error held", "leader 0 version 1 generation 1", "ok", "leader -1 version 2 generation 0", "ok", "leader 3 version 3 generation 1", "ok", "leader 3 version 3 generation 1", "ok", "leader 3 version 4 generation 2"}},
	}
}

func TestP17DialoguesByHand(t *testing.T) {
	for i, d := range dialogues() {
		_, said := wantLines(t, fmt.Sprint("dialogue ", i), d.lines)
		wantSaid(t, fmt.Sprint("dialogue ", i), said, d.said)
	}
}

// usedUpLines take each cluster there is: one more write finds no room.
func usedUpLines() []string {
	lines := []string{"open 0", "host 0 resize 12"}
	for turn := range 2 {
		for g := range 12 {
			lines = append(lines, fmt.Sprint("host 0 write ", g, " ", 100*turn+g))
		}
		lines = append(lines, "host 0 create "+string(rune('a'+turn)))
	}
	return lines
}

// A full image says so, and its guest does not do what the image did not.
func TestP17FullImages(t *testing.T) {
	lines := append(usedUpLines(), "host 0 write 3 9", "guest", "crash 0 100 100 write 3 9", "guest", "open 0", "guest", "host 0 read 3", "host 0 delete a", "host 0 write 3 9", "guest")
	_, said := wantLines(t, "full", lines)
	shown := "now: 100 101 102 103 104 105 106 107 108 109 110 111"
	if n := len(lines) - 10; said[n] != "full" || said[n+1] != shown || said[n+3] != "b: "+shown[5:] || said[n+4] != "agree yes" {
		t.Errorf("%q", said[n:])
	}
	if !slices.Equal(said[len(said)-6:], []string{"ok 103", "ok", "ok", "now: 100 101 102 9 104 105 106 107 108 109 110 111", "b: " + shown[5:], "agree yes"}) {
		t.Errorf("%q", said)
	}
}

// rightLines are one of each kind, that do something on an open world.
func rightLines() []string {
	return []string{"guest", "leader", "open 1", "close 0", "renew 0", "ticks 7", "host 0 read 2", "host 0 write 2 41", "host 0 zero 2", "host 0 resize 3", "host 0 create new", "host 0 delete s", "host 0 revert s", "host 0 list",
		"crash 0 5 1 write 2 42", "crash 0 3 0 read 1", "crash 0 100 100 delete s", "crash 0 0 0 list"}
}

// around has lines that make something to see, ahead of a line and behind it.
func around(line string) []string {
	return []string{"open 0", "host 0 write 2 5", "host 0 create s", "host 0 write 2 6", "ticks 3", line, "guest", "leader", "host 0 list", "ticks 57", "open 1", "ticks 3", "open 2", "guest", "leader", "renew 1", "host 1 read 2"}
}

// wantSameAs asks that a line does, and says, what another one does.
func wantSameAs(t *testing.T, line, other string) {
	t.Helper()
	w, said := wantLines(t, line, around(line))
	want, wantSaying := linesRunBy(around(other))
	wantWorld(t, line, w, impl.OK, want, impl.OK)
	wantSaid(t, line, said, slices.Concat(wantSaying...))
}

// wantNoLine asks that a line is none: the world is as it was, and nothing behind it goes another way.
func wantNoLine(t *testing.T, line string) {
	t.Helper()
	lines := around(line)
	w, said, code := impl.RunLines(lines)
	want, parts := linesRunBy(slices.Concat(lines[:5], []string{""}, lines[6:]))
	parts[5] = []string{"error form"}
	if code != impl.OK || !slices.Equal(said, slices.Concat(parts...)) || !alikeWorlds(w, want) {
		t.Errorf("%.100q: code %d, said %.500q", line, code, said)
	}
}

func TestP17EachKindOfLine(t *testing.T) {
	for _, line := range rightLines() {
		_, said := wantLines(t, line, around(line))
		if said[5] == "error form" {
			t.Error("it is a line:", line)
		}
		wantSameAs(t, line, line)
	}
}

func TestP17BlanksAheadBehindAndBetween(t *testing.T) {
	for _, line := range rightLines() {
		for _, blanks := range []string{" ", "  ", "    ", strings.Repeat(" ", 500)} {
			between := strings.ReplaceAll(line, " ", blanks)
			for _, x := range []string{between, blanks + line, line + blanks, blanks + between + blanks} {
				wantSameAs(t, x, line)
			}
		}
		// Nothing else parts words, or stands beside them.
		for _, b := range []string{"\t", "\n", "\r", "\v", "\f", "\x00", "\u00a0", "\u2003", "\x85", "\xa0", "\xff", ",", "_", "#"} {
			between := strings.ReplaceAll(line, " ", b)
			for _, x := range []string{line + b, line + " " + b} {
				wantNoLine(t, x)
			}
			if between != line {
				wantNoLine(t, between)
			}
			if b != "#" {
				wantNoLine(t, b+line)
				wantNoLine(t, b+" "+line)
				wantNoLine(t, b)
			}
		}
	}
}

// A line says nothing if its first word begins so, whatever stands behind; a later word may not.
func TestP17LinesThatSayNothing(t *testing.T) {
	for _, line := range append(silentLines(), "#\n", "#\x00", "# "+strings.Repeat("open 0 ", 300)) {
		wantSameAs(t, line, "")
	}
	for _, line := range rightLines() {
		for _, sign := range []string{"#", "##", "# ", " #", "  #  ", "#x "} {
			wantSameAs(t, sign+line, "")
		}
		wantNoLine(t, line+" #")
		wantNoLine(t, line+" # "+line)
		words := strings.Fields(line)
		for i := 1; i < len(words); i++ {
			wantNoLine(t, strings.Join(slices.Insert(slices.Clone(words), i, "#"), " "))
			hashed := slices.Clone(words)
			hashed[i] = "#" + hashed[i]
			wantNoLine(t, strings.Join(hashed, " "))
		}
	}
	for _, line := range []string{"\t#", "\x00#", "x#", "x #", "0 #", "\u00a0#", "\n#", "\r# open 0", "'#", "/# open 0"} {
		wantNoLine(t, line)
	}
}

func TestP17TooFewAndTooManyWords(t *testing.T) {
	for _, line := range rightLines() {
		words := strings.Fields(line)
		for n := 1; n < len(words); n++ {
			wantNoLine(t, strings.Join(words[:n], " "))
		}
		for _, more := range []string{"0", "1", "a", "list", "guest", "ok", "-1", "\x00"} {
			for count := 1; count < 4; count++ {
				wantNoLine(t, line+strings.Repeat(" "+more, count))
			}
			wantNoLine(t, more+" "+line)
		}
		wantNoLine(t, line+" "+line)
		// A word that is left out.
		for i := range words {
			if short := strings.Join(slices.Delete(slices.Clone(words), i, i+1), " "); short != "" {
				wantNoLine(t, short)
			}
		}
	}
}

func TestP17WordsThatAreNone(t *testing.T) {
	for _, line := range rightLines() {
		words := strings.SplitN(line, " ", 2)
		rest := append(words, "")[1]
		for _, first := range []string{"go", "Open", "OPEN", strings.ToUpper(words[0]), strings.ToTitle(words[0]), words[0] + "s", words[0] + "0", words[0] + "\x00", words[0] + "#", "_" + words[0], words[0][1:], words[0][:len(words[0])-1], "req", "tick", "hosts", "read", "list", "now", "agree", "error", "ok", "0", "1", "-", "\xff"} {
			if strings.TrimSpace(first) != first || first == words[0] {
				continue
			}
			wantNoLine(t, strings.TrimSuffix(first+" "+rest, " "))
		}
		// Each word in the place of each other one.
		for _, other := range rightLines() {
			if first := strings.Fields(other)[0]; first != words[0] {
				line := strings.TrimSuffix(first+" "+rest, " ")
				wantLines(t, line, around(line))
			}
		}
	}
}

// numberWords are told or mistold numbers, at bounds and beyond.
func numberWords() []string {
	out := []string{"", "x", "0x1", "1e1", "1.0", "1_0", "+0", "+1", "-0", "--1", "-", "00", "01", "007", "1a", "a1", "0 ", "٣", "\x00", "0\x00",
		"999999999999999999", "1000000000000000000", "099999999999999999", "0000000000000000000", "000000000000000001", "18446744073709551616", "18446744073709551617", "9223372036854775807", "9223372036854775808", "-9223372036854775808", "4294967296", "4294967297", "2147483647", "2147483648",
		"-999999999999999999", "-1000000000000000000", "-099999999999999999", strings.Repeat("0", 300), strings.Repeat("1", 300), strings.Repeat("9", 5000)}
	for _, n := range []int{0, 1, 2, 3, 4, 5, 9, 10, 11, 99, 100, 101, 255, 256, 1000, 99999, 100000, 100001, 100002, 999999, 1000000, 1000001} {
		out = append(out, strconv.Itoa(n), strconv.Itoa(-n), "0"+strconv.Itoa(n), "+"+strconv.Itoa(n), strconv.Itoa(n)+"0")
	}
	return out
}

func TestP17NumbersInEachPlace(t *testing.T) {
	for _, c := range []struct {
		line  string
		right func(n int) bool
	}{
		{"open ?", isHost}, {"close ?", isHost}, {"renew ?", isHost}, {"host ? list", isHost}, {"host ? write 0 1", isHost}, {"crash ? 5 1 write 0 1", isHost},
		{"ticks ?", func(n int) bool { return n <= 100000 }},
		{"crash 0 ? 1 write 0 1", upTo100}, {"crash 0 5 ? write 0 1", upTo100},
		{"host 0 read ?", rightNumber}, {"host 0 write ? 1", rightNumber}, {"host 0 write 1 ?", rightNumber}, {"host 0 zero ?", rightNumber}, {"host 0 resize ?", rightNumber},
		{"crash 0 5 1 read ?", rightNumber}, {"crash 0 5 1 write ? 1", rightNumber}, {"crash 0 100 0 write 1 ?", rightNumber}, {"crash 0 100 0 resize ?", rightNumber},
	} {
		for _, word := range numberWords() {
			line := strings.Replace(c.line, "?", word, 1)
			n, ok := numberIn(strings.TrimSpace(word))
			if ok && c.right(n) {
				wantSameAs(t, line, strings.Replace(c.line, "?", strconv.Itoa(n), 1))
			} else {
				wantNoLine(t, line)
			}
		}
	}
}

func isHost(n int) bool  { return n <= 3 }
func upTo100(n int) bool { return n <= 100 }

func TestP17RequestsThatAreNone(t *testing.T) {
	for _, text := range []string{"", "go", "read", "write 1", "write 1 2 3", "zero", "zero 1 1", "resize", "resize x", "create", "create a b", "create A", "create abcdefg", "create a1", "create a_b", "create -", "create \xff", "delete", "delete 1", "revert", "revert a b", "list 1", "lists", "List", "read -1", "write 1 -1", "write -1 1", "read 01", "read x", "create #", "host 0 list", "open 0", "guest"} {
		wantNoLine(t, "host 0 "+text)
		wantNoLine(t, "crash 0 1 1 "+text)
	}
	for _, name := range noSnapNames() {
		// With a blank beside it one that is right is right still.
		if rightSnapName(strings.Trim(name, " ")) {
			continue
		}
		for _, word := range []string{"create", "delete", "revert"} {
			wantNoLine(t, "host 0 "+word+" "+name)
			wantNoLine(t, "crash 0 3 1 "+word+" "+name)
		}
	}
}

// A line that is an act is one of whichever host, in whatever state: one that is none is none for all of them.
func TestP17LinesThatAreNoneOfAnyHost(t *testing.T) {
	for host := range 4 {
		for _, ahead := range [][]string{nil, {"open 0"}, {"open 0", "close 0"}, {"open 0", "ticks 10"}, {"open 0", "crash 0 0 0 list"}} {
			for _, line := range []string{"host ? go", "host ?", "crash ? 101 0 list", "crash ? 0 101 list", "crash ? 0 0 go", "crash ? 0 0", "open ? ?", "close ? 1", "renew ? 1"} {
				lines := append(slices.Clone(ahead), strings.ReplaceAll(line, "?", strconv.Itoa(host)), "guest", "leader", "open 0")
				_, said := wantLines(t, line, lines)
				if said[len(ahead)] != "error form" {
					t.Errorf("%q is a line behind %q: %q", lines[len(ahead)], ahead, said)
				}
			}
		}
	}
}

// In a list a line may be as long as it likes: what counts is its words.
func TestP17LongLines(t *testing.T) {
	for _, n := range []int{impl.MaxText - 10, impl.MaxText - 1, impl.MaxText, impl.MaxText + 1, 2 * impl.MaxText} {
		blanks, junk := strings.Repeat(" ", n), strings.Repeat("x", n)
		for _, line := range []string{"guest", "open 1", "host 0 write 2 9", "crash 0 5 1 write 2 9"} {
			spaced := strings.Replace(line, " ", blanks, 1)
			last := strings.LastIndex(line, " ") + 1
			for _, x := range []string{blanks + line, line + blanks, spaced, line[:last] + blanks + line[last:]} {
				wantSaysSame(t, x, line)
			}
			wantNoLine(t, line+junk)
			wantNoLine(t, line+" "+junk)
			wantNoLine(t, junk+line)
			wantNoLine(t, junk+" "+line)
			wantSaysSame(t, "#"+junk+line, "")
			wantSaysSame(t, "# "+junk, "")
		}
		wantSaysSame(t, blanks, "")
		wantNoLine(t, "host 0 create "+junk)
		wantNoLine(t, "host 0 read "+strings.Repeat("1", n))
		wantNoLine(t, "host 0 read"+strings.Repeat(" 1", n/2))
	}
}

// wantSaysSame is wantSameAs without a reckoning of the line itself, which would take long.
func wantSaysSame(t *testing.T, line, other string) {
	t.Helper()
	w, said, code := impl.RunLines(around(line))
	want, parts := linesRunBy(around(other))
	if !slices.Equal(said, slices.Concat(parts...)) || code != impl.OK || !alikeWorlds(w, want) {
		t.Errorf("%.60q, of %d bytes: code %d, said %.500q, not as of %q", line, len(line), code, said, other)
	}
}
