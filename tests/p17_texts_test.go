package tests

import (
	"fmt"
	"math/rand"
	"slices"
	"strings"
	"testing"

	"loop.example/g00456/impl"
)

// Promise 17, of texts: which lines they have, and what is told of them.

// wantText holds Console against the reckoning and against RunLines.
func wantText(t *testing.T, text string) {
	t.Helper()
	lines := linesIn(text)
	if len(lines) > 60 {
		wantNoConsole(t, "too many lines", text, impl.ErrMany)
		return
	}
	_, parts := linesRunBy(lines)
	wantConsole(t, fmt.Sprintf("%.200q", text), text, ended(slices.Concat(parts...)))
	_, said, code := impl.RunLines(lines)
	wantOK(t, "RunLines", code)
	wantSaid(t, fmt.Sprintf("%.200q", text), said, slices.Concat(parts...))
}

func TestP17TextsByHand(t *testing.T) {
	for _, c := range []struct{ text, want string }{
		{"", ""},
		{"\n", ""},
		{"\n\n\n", ""},
		{" ", ""},
		{"#", ""},
		{"# open 0\n", ""},
		{"go", "error form\n"},
		{"go\n", "error form\n"},
		{"\ngo", "error form\n"},
		{"\n\ngo\n\n", "error form\n"},
		{"go\ngo", "error form\nerror form\n"},
		{"go\n\n \ngo\n", "error form\nerror form\n"},
		{"open 0", "ok\n"},
		{"open 0\nopen 0\n", "ok\nerror open\n"},
		{"open\n0", "error form\nerror form\n"},
		{"open 0\r\nopen 0", "error form\nok\n"},
		{"open 0\n\r", "ok\nerror form\n"},
		{"open 0\vopen 0", "error form\n"},
		{"open 0\x00", "error form\n"},
		{"guest", "now: 0 0 0 0 0 0\nagree yes\n"},
		{"guest\nleader", "now: 0 0 0 0 0 0\nagree yes\nleader -1 version 0 generation 0\n"},
		{" open 2 \n  host  2  write 1  7\nhost 2 create a\nhost 2 write 1 8\nguest\nhost 2 list\nhost 2 read 6", "ok\nok\nok\nok\nnow: 0 8 0 0 0 0\na: 0 7 0 0 0 0\nagree yes\nok 6 a\nrange\n"},
	} {
		wantConsole(t, "by hand", c.text, c.want)
		wantText(t, c.text)
	}
}

// With a byte 10 behind the last line, without one, and with several of them in a row.
func TestP17TheEndOfATextsLines(t *testing.T) {
	for i, lines := range lineLists() {
		lines = lines[:min(len(lines), 30)]
		lines = slices.DeleteFunc(slices.Clone(lines), func(line string) bool { return strings.Contains(line, "\n") })
		text, want := ended(lines), ""
		_, said := wantLines(t, fmt.Sprint("list ", i), lines)
		want = ended(said)
		wantConsole(t, "with it", text, want)
		wantConsole(t, "without it", strings.TrimSuffix(text, "\n"), want)
		for n := 1; n <= 30-len(lines)/2; n++ {
			wantConsole(t, "behind it", text+strings.Repeat("\n", n), want)
			wantConsole(t, "ahead of it", strings.Repeat("\n", n)+text, want)
		}
		wantConsole(t, "two at each end", strings.Join(lines, "\n\n"), want)
		wantConsole(t, "two at each end, and behind it", strings.ReplaceAll(text, "\n", "\n\n"), want)
	}
}

func TestP17HowManyLinesATextHas(t *testing.T) {
	for _, n := range []int{0, 1, 58, 59, 60} {
		wantConsole(t, "ends alone", strings.Repeat("\n", n), "")
		wantConsole(t, "with an end", strings.Repeat("go\n", n), strings.Repeat("error form\n", n))
		if n < 60 {
			wantConsole(t, "and one line without", strings.Repeat("\n", n)+"go", "error form\n")
			wantConsole(t, "and a blank", strings.Repeat("go\n", n)+" ", strings.Repeat("error form\n", n))
		}
	}
	for _, last := range []string{"x", " ", "#", "\x00", "\r", "guest"} {
		wantNoConsole(t, "the last one without an end", strings.Repeat("\n", 60)+last, impl.ErrMany)
		wantNoConsole(t, "the last one without an end", strings.Repeat("go\n", 60)+last, impl.ErrMany)
	}
	// A text may have more lines than a list may: they are too many still.
	for _, n := range []int{61, 62, 255, 256, 316, impl.MaxList - 1, impl.MaxList, impl.MaxList + 1, 5000, 21845, impl.MaxText - 1, impl.MaxText} {
		wantNoConsole(t, "ends alone", strings.Repeat("\n", n), impl.ErrMany)
		if 3*n <= impl.MaxText {
			wantNoConsole(t, "with an end", strings.Repeat("go\n", n), impl.ErrMany)
		}
	}
}

func TestP17LongTexts(t *testing.T) {
	head := "open 0\nhost 0 write 1 7\nguest\n"
	told := "ok\nok\nnow: 0 7 0 0 0 0\nagree yes\n"
	for _, n := range []int{impl.MaxText - 1, impl.MaxText} {
		rest := n - len(head)
		wantConsole(t, "a long remark", head+"#"+strings.Repeat("x", rest-1), told)
		wantConsole(t, "a long remark, with an end", head+"#"+strings.Repeat("x", rest-2)+"\n", told)
		wantConsole(t, "blanks", head+strings.Repeat(" ", rest), told)
		wantConsole(t, "a long word", head+strings.Repeat("x", rest), told+"error form\n")
		wantConsole(t, "blanks ahead", strings.Repeat(" ", rest)+head, told)
		wantConsole(t, "blanks between", strings.Replace(head, "1 7", "1"+strings.Repeat(" ", rest+1)+"7", 1), told)
		wantConsole(t, "one line of it", strings.Repeat(" ", n-5)+"guest", "now: 0 0 0 0 0 0\nagree yes\n")
		wantConsole(t, "one silent line", "#"+strings.Repeat("\x00", n-1), "")
	}
	for _, n := range []int{impl.MaxText + 1, impl.MaxText + 2, 2 * impl.MaxText, 1 << 20} {
		for _, b := range []string{"\n", " ", "#", "x", "\x00"} {
			wantNoConsole(t, "too long", strings.Repeat(b, n), impl.ErrLong)
			wantNoConsole(t, "too long", (head + strings.Repeat(b, n))[:n], impl.ErrLong)
		}
		wantNoConsole(t, "too long, and too many", strings.Repeat("go\n", n), impl.ErrLong)
	}
	// 60 lines that are as long as they may be.
	line := strings.Repeat(" ", 1086) + "guest"
	text := strings.Repeat(line+"\n", 60)
	wantConsole(t, "60 long ones", text, strings.Repeat("now: 0 0 0 0 0 0\nagree yes\n", 60))
	if len(text) > impl.MaxText || len(text)+60 < impl.MaxText {
		t.Error("it has", len(text))
	}
}

// Each byte in each place of a few texts: parted or not, a line or none.
func TestP17TextsWithAByteChanged(t *testing.T) {
	for _, text := range []string{"open 0\nhost 0 write 1 7\nguest", "crash 0 5 1 list\n# x\nleader\n", "ticks 1\nrenew 0"} {
		for at := range len(text) {
			for b := range 256 {
				wantText(t, text[:at]+string([]byte{byte(b)})+text[at+1:])
			}
			wantText(t, text[:at]+text[at+1:])
			wantText(t, text[:at]+"\n"+text[at:])
			wantText(t, text[:at]+" "+text[at:])
		}
		if t.Failed() {
			return
		}
	}
}

func TestP17TextsOfAnyBytes(t *testing.T) {
	r := rand.New(rand.NewSource(174))
	words := []string{"open", "close", "renew", "ticks", "host", "crash", "guest", "leader", "read", "write", "list", "create", "0", "1", "2", "5", "60", "a", "#", "-1", "x", "\t"}
	for range 1500 {
		var text strings.Builder
		for range r.Intn(120) {
			text.WriteString(words[r.Intn(len(words))])
			text.WriteString([]string{" ", " ", "  ", "\n", "\n\n", ""}[r.Intn(6)])
		}
		wantText(t, text.String())
	}
	for range 500 {
		text := make([]byte, r.Intn(300))
		for i := range text {
			text[i] = byte(r.Intn(256) & []int{255, 63, 42, 10}[r.Intn(4)])
		}
		wantText(t, string(text))
	}
}
