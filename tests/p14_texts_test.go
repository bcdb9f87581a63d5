package tests

import (
	"math/rand"
	"slices"
	"strconv"
	"strings"
	"testing"

	"loop.example/g00456/impl"
)

// Promise 14, of the texts of requests and replies; p14_reckoning_test.go says what it is held against.

func wantReqRead(t *testing.T, text string, want impl.Req) {
	t.Helper()
	if got, code := impl.ReadReq(text); got != want || code != impl.OK {
		t.Errorf("ReadReq of %.60q: %s with code %d, not %s", text, named(got), code, named(want))
	}
}

func wantNotRead(t *testing.T, text string, want int) {
	t.Helper()
	if got, code := impl.ReadReq(text); got != (impl.Req{}) || code != want {
		t.Errorf("ReadReq of %.60q: %s with code %d, not %d", text, named(got), code, want)
	}
}

// wantReadOrNot holds a text against the reckoning, and tells whether it was read.
func wantReadOrNot(t *testing.T, text string) bool {
	t.Helper()
	want, ok := requestIn(text)
	switch {
	case len(text) > 65536:
		wantNotRead(t, text, impl.ErrLong)
		return false
	case ok:
		wantReqRead(t, text, want)
	default:
		wantNotRead(t, text, impl.ErrForm)
	}
	return ok
}

func TestP14TextsByHand(t *testing.T) {
	for _, c := range []struct {
		q    impl.Req
		text string
	}{
		{impl.Req{Kind: impl.RqRead}, "read 0"},
		{impl.Req{Kind: impl.RqRead, G: 11}, "read 11"},
		{impl.Req{Kind: impl.RqWrite}, "write 0 0"},
		{impl.Req{Kind: impl.RqWrite, G: 3, Value: 40}, "write 3 40"},
		{impl.Req{Kind: impl.RqWrite, G: 2147483647, Value: 2147483647}, "write 2147483647 2147483647"},
		{impl.Req{Kind: impl.RqZero, G: 5}, "zero 5"},
		{impl.Req{Kind: impl.RqResize, G: 12}, "resize 12"},
		{impl.Req{Kind: impl.RqResize, G: 100}, "resize 100"},
		{impl.Req{Kind: impl.RqCreate, Name: "a"}, "create a"},
		{impl.Req{Kind: impl.RqCreate, Name: "create"}, "create create"},
		{impl.Req{Kind: impl.RqDelete, Name: "zzzzzz"}, "delete zzzzzz"},
		{impl.Req{Kind: impl.RqRevert, Name: "list"}, "revert list"},
		{impl.Req{Kind: impl.RqList}, "list"},
	} {
		if text, code := impl.ReqText(c.q); text != c.text || code != impl.OK {
			t.Errorf("ReqText of %s: %q with code %d, not %q", named(c.q), text, code, c.text)
		}
		wantReqRead(t, c.text, c.q)
	}
}

func TestP14RequestsAreReadBack(t *testing.T) {
	told, untold, seen := map[int]int{}, map[int]int{}, map[string]impl.Req{}
	for _, q := range rightReqs() {
		want, ok := textBy(q)
		text, code := impl.ReqText(q)
		if !ok {
			wantNoText(t, "ReqText of "+named(q), text, code, impl.ErrBad)
			untold[q.Kind]++
			continue
		}
		if text != want || code != impl.OK {
			t.Errorf("ReqText of %s: %q with code %d, not %q", named(q), text, code, want)
		}
		wantReqRead(t, text, q)
		if other, there := seen[text]; there && other != q {
			t.Error("two requests have one text:", text)
		}
		seen[text] = q
		told[q.Kind]++
	}
	if len(told) != 8 || len(untold) != 7 {
		t.Error("not all kinds:", told, untold)
	}
	for _, q := range wrongReqs() {
		text, code := impl.ReqText(q)
		wantNoText(t, "ReqText of "+named(q), text, code, impl.ErrBad)
	}
}

func TestP14RequestsOfAnyNumbers(t *testing.T) {
	r := rand.New(rand.NewSource(141))
	for range 5000 {
		q := impl.Req{Kind: 1 + r.Intn(4), G: r.Intn(1<<31) >> r.Intn(31)}
		if q.Kind == 2 {
			q.Value = r.Intn(1<<31) >> r.Intn(31)
		}
		want, _ := textBy(q)
		if text, code := impl.ReqText(q); text != want || code != impl.OK {
			t.Errorf("ReqText of %s: %q with code %d", named(q), text, code)
		}
		wantReqRead(t, want, q)
	}
}

// Each letter in each place of a name of each length.
func TestP14RequestsOfAnyNames(t *testing.T) {
	for size := 1; size <= 6; size++ {
		for at := range size {
			for b := range 256 {
				name := []byte(strings.Repeat("m", size))
				name[at] = byte(b)
				for kind := 5; kind <= 7; kind++ {
					q := impl.Req{Kind: kind, Name: string(name)}
					want, ok := textBy(q)
					text, code := impl.ReqText(q)
					if !ok {
						wantNoText(t, "ReqText of "+named(q), text, code, impl.ErrBad)
					} else if text != want || code != impl.OK {
						t.Errorf("ReqText of %s: %q with code %d", named(q), text, code)
					}
					if read := wantReadOrNot(t, kindWords[kind-1]+" "+string(name)); read != ok && b != ' ' {
						t.Errorf("told %v, and read %v: %q", ok, read, name)
					}
				}
			}
		}
	}
}

func TestP14BlanksBetween(t *testing.T) {
	for _, text := range []string{"read 7", "write 3 40", "zero 0", "resize 12", "create one", "delete a", "revert zzzzzz", "list"} {
		want, _ := requestIn(text)
		for _, blanks := range []string{" ", "  ", "   ", strings.Repeat(" ", 1000)} {
			between := strings.ReplaceAll(text, " ", blanks)
			for _, x := range []string{between, blanks + text, text + blanks, blanks + text + blanks, blanks + between + blanks} {
				wantReqRead(t, x, want)
			}
		}
		// Nothing else parts words, or stands beside them.
		for _, b := range []string{"\t", "\n", "\r", "\v", "\f", "\x00", "\u00a0", "\u2003", "\x85", "\xa0", "\xff", ",", "_"} {
			if between := strings.ReplaceAll(text, " ", b); between != text {
				wantNotRead(t, between, impl.ErrForm)
			}
			for _, x := range []string{b + text, text + b, b + " " + text, text + " " + b} {
				wantNotRead(t, x, impl.ErrForm)
			}
		}
	}
	for _, n := range []int{0, 1, 2, 100, impl.MaxText} {
		wantNotRead(t, strings.Repeat(" ", n), impl.ErrForm)
	}
}

func TestP14TextsOfTooFewAndTooManyWords(t *testing.T) {
	for kind, word := range kindWords {
		for count := range 6 {
			for _, more := range []string{"1", "one", "0", "list"} {
				text := word + strings.Repeat(" "+more, count)
				want := []int{1, 2, 1, 1, 1, 1, 1, 0}[kind]
				read := wantReadOrNot(t, text)
				if right := count == want && (count == 0 || usesName(kind+1) == (more == "one" || more == "list")); read != right {
					t.Errorf("%q is read: %v", text, read)
				}
			}
		}
	}
	for _, text := range []string{
		"", "read", "write", "write 1", "zero", "resize", "create", "delete", "revert",
		"read 1 2", "write 1 2 3", "zero 1 2", "resize 1 2", "create a b", "delete a b", "revert a b", "list 1", "list a", "list list",
	} {
		wantNotRead(t, text, impl.ErrForm)
	}
}

func TestP14WordsThatAreNone(t *testing.T) {
	for _, rest := range []string{"", " 1", " 1 2", " one"} {
		for _, word := range []string{"go", "Read", "READ", "rea", "reads", "rread", "writ", "Write", "zeros", "size", "creat", "list1", "lis", "ok", "none", "1", "0", "-", "#", "#read", "read1", "open", "host", "crash", "\x00", "read\x00", "\"read\"", "kind", "readwrite"} {
			wantNotRead(t, word+rest, impl.ErrForm)
		}
	}
}

func TestP14TextsOfNumbers(t *testing.T) {
	for _, c := range []struct {
		text string
		ok   bool
	}{
		{"0", true}, {"9", true}, {"10", true}, {"2147483646", true}, {"2147483647", true},
		{"2147483648", false}, {"4294967295", false}, {"4294967296", false}, {"4294967297", false}, {"9999999999", false},
		{"99999999999999999", false}, {"999999999999999999", false}, {"100000000000000000", false},
		{"1000000000000000000", false}, {"9999999999999999999", false}, {"9223372036854775807", false}, {"9223372036854775808", false},
		{"18446744073709551616", false}, {"18446744073709551617", false}, {"36893488147419103233", false}, {strings.Repeat("9", 100), false}, {"1" + strings.Repeat("0", 64), false},
		{"00", false}, {"01", false}, {"007", false}, {"000000000000000001", false}, {"0000000000000000001", false}, {strings.Repeat("0", 18), false}, {strings.Repeat("0", 19), false}, {strings.Repeat("0", 65000), false},
		{"-", false}, {"-0", false}, {"-1", false}, {"-7", false}, {"--1", false}, {"1-", false}, {"-01", false}, {"-2147483648", false}, {"-9223372036854775808", false},
		{"+1", false}, {"+0", false}, {"1.0", false}, {"1e1", false}, {"0x1", false}, {"0b1", false}, {"0o1", false}, {"1_0", false}, {"1,0", false}, {"x", false}, {"one", false},
		{"1x", false}, {"x1", false}, {"1\x00", false}, {"\x001", false}, {"/", false}, {":", false}, {"1/", false}, {"1:", false}, {"\u0661", false}, {"\uff11", false}, {"1\n", false}, {"\t1", false},
	} {
		n, _ := strconv.Atoi(c.text)
		for kind, text := range map[int]string{1: "read " + c.text, 3: "zero " + c.text, 4: "resize " + c.text} {
			if c.ok {
				wantReqRead(t, text, impl.Req{Kind: kind, G: n})
			} else {
				wantNotRead(t, text, impl.ErrForm)
			}
		}
		if c.ok {
			wantReqRead(t, "write "+c.text+" 7", impl.Req{Kind: 2, G: n, Value: 7})
			wantReqRead(t, "write 7 "+c.text, impl.Req{Kind: 2, G: 7, Value: n})
		} else {
			wantNotRead(t, "write "+c.text+" 7", impl.ErrForm)
			wantNotRead(t, "write 7 "+c.text, impl.ErrForm)
		}
	}
}

// 65536 bytes are read, one more is too long, whatever they say.
func TestP14LongTexts(t *testing.T) {
	for _, text := range []string{"read 7", "write 3 40", "zero 0", "resize 12", "create one", "delete a", "revert zzzzzz", "list"} {
		want, _ := requestIn(text)
		blanks := strings.Repeat(" ", impl.MaxText-len(text))
		middle := strings.Replace(text, " ", " "+blanks, 1)
		for _, x := range []string{text + blanks, blanks + text, middle} {
			if x == text {
				continue
			}
			wantReqRead(t, x, want)
			wantNotRead(t, x+" ", impl.ErrLong)
			wantNotRead(t, " "+x, impl.ErrLong)
		}
	}
	for _, piece := range []string{" ", "a", "1", "read ", "write 1 2 ", "create a ", "\x00", "\xff"} {
		text := strings.Repeat(piece, impl.MaxText+1)
		wantNotRead(t, text[:impl.MaxText], impl.ErrForm)
		wantNotRead(t, text[:impl.MaxText+1], impl.ErrLong)
		wantNotRead(t, text[:impl.MaxText-1], impl.ErrForm)
	}
	long := strings.Repeat("a", impl.MaxText)
	wantNotRead(t, ("create " + long)[:impl.MaxText], impl.ErrForm)
	wantNotRead(t, "create "+long, impl.ErrLong)
}

// Right texts with one byte changed, taken out or put in: whether they are read is reckoned.
func TestP14TextsWithAByteChanged(t *testing.T) {
	met := map[bool]int{}
	for _, text := range []string{"read 10", "write 3 2147483647", "zero 9", "resize 12", "create one", "delete ab", "revert zzzzzz", "list"} {
		for at := range len(text) + 1 {
			for b := range 256 {
				met[wantReadOrNot(t, text[:at]+string([]byte{byte(b)})+text[at:])]++
				if at < len(text) {
					met[wantReadOrNot(t, text[:at]+string([]byte{byte(b)})+text[at+1:])]++
				}
			}
			if at < len(text) {
				met[wantReadOrNot(t, text[:at]+text[at+1:])]++
			}
			met[wantReadOrNot(t, text[:at])]++
			met[wantReadOrNot(t, text[at:])]++
		}
	}
	if met[true] < 500 || met[false] < 5000 {
		t.Error("too few of one sort:", met)
	}
}

func TestP14TextsOfAnyWords(t *testing.T) {
	r := rand.New(rand.NewSource(142))
	words := append([]string{"0", "1", "12", "007", "-1", "2147483647", "2147483648", "one", "A", "sevenab", "zzzzzz", "go", "", "", "\t"}, kindWords...)
	met, kinds := map[bool]int{}, map[int]int{}
	for range 60000 {
		var parts []string
		if r.Intn(4) > 0 {
			parts = append(parts, kindWords[r.Intn(8)])
		}
		for range r.Intn(4) {
			parts = append(parts, words[r.Intn(len(words))])
		}
		text := strings.Join(parts, strings.Repeat(" ", 1+r.Intn(2)))
		read := wantReadOrNot(t, text)
		met[read]++
		if read {
			q, _ := requestIn(text)
			kinds[q.Kind]++
		}
	}
	if met[true] < 2000 || met[false] < 2000 || len(kinds) != 8 {
		t.Error("too few of one sort:", met, kinds)
	}
}

func wantReply(t *testing.T, where string, q impl.Req, r impl.Reply) bool {
	t.Helper()
	want, ok := replyTextBy(q, r)
	text, code := impl.ReplyText(q, r)
	if !ok {
		wantNoText(t, where+": ReplyText of "+named(q), text, code, impl.ErrBad)
	} else if text != want || code != impl.OK {
		t.Errorf("%s: ReplyText of %s: %q with code %d, not %q", where, named(q), text, code, want)
	}
	return ok
}

func TestP14RepliesByHand(t *testing.T) {
	read, write, create, list := impl.Req{Kind: impl.RqRead, G: 1}, impl.Req{Kind: impl.RqWrite, G: 1, Value: 7}, impl.Req{Kind: impl.RqCreate, Name: "one"}, impl.Req{Kind: impl.RqList}
	for _, c := range []struct {
		q    impl.Req
		r    impl.Reply
		want string
	}{
		{read, impl.Reply{}, "ok 0"},
		{read, impl.Reply{Value: 7}, "ok 7"},
		{read, impl.Reply{Value: 2147483647}, "ok 2147483647"},
		{read, impl.Reply{Code: impl.ErrRange}, "range"},
		{read, impl.Reply{Code: impl.ErrRange, Value: 7}, "range"},
		{write, impl.Reply{}, "ok"},
		{write, impl.Reply{Value: 7}, "ok"},
		{write, impl.Reply{Code: impl.ErrFull}, "full"},
		{impl.Req{Kind: impl.RqZero}, impl.Reply{}, "ok"},
		{impl.Req{Kind: impl.RqResize, G: 13}, impl.Reply{Code: impl.ErrRange}, "range"},
		{create, impl.Reply{}, "ok"},
		{create, impl.Reply{Code: impl.ErrTwice}, "twice"},
		{impl.Req{Kind: impl.RqCreate, Name: "A"}, impl.Reply{Code: impl.ErrName}, "name"},
		{impl.Req{Kind: impl.RqDelete, Name: "one"}, impl.Reply{Code: impl.ErrNone}, "none"},
		{impl.Req{Kind: impl.RqRevert}, impl.Reply{Code: impl.ErrNone}, "none"},
		{list, impl.Reply{}, "ok 0"},
		{list, impl.Reply{Value: 12}, "ok 12"},
		{list, impl.Reply{Value: 5, Names: []string{"one"}}, "ok 5 one"},
		{list, impl.Reply{Value: 5, Names: []string{"z", "abcdef", "m"}}, "ok 5 z abcdef m"},
		{list, impl.Reply{Code: impl.ErrBroken, Value: 5, Names: []string{"one"}}, "broken"},
	} {
		if text, code := impl.ReplyText(c.q, c.r); text != c.want || code != impl.OK {
			t.Errorf("ReplyText of %s, %v: %q with code %d, not %q", named(c.q), c.r, text, code, c.want)
		}
	}
}

// fewReqs are one of each kind, and some that are right though they cannot be told.
func fewReqs() []impl.Req {
	return []impl.Req{
		{Kind: 1, G: 1}, {Kind: 2, G: 1, Value: 7}, {Kind: 3, G: 1}, {Kind: 4, G: 1}, {Kind: 5, Name: "one"}, {Kind: 6, Name: "one"}, {Kind: 7, Name: "one"}, {Kind: 8},
		{Kind: 1, G: -1}, {Kind: 2, G: greatest, Value: least}, {Kind: 4, G: 1 << 31}, {Kind: 5}, {Kind: 6, Name: "A"}, {Kind: 7, Name: strings.Repeat("a", impl.MaxText)},
	}
}

// Each kind with each code, with no, one, two and three names.
func TestP14RepliesOfAllKindsAndCodes(t *testing.T) {
	names := []string{"a", "zzzzzz", "abcdef"}
	for _, q := range fewReqs() {
		for code := range 20 {
			for count := range 4 {
				for _, value := range []int{0, 1, 12, mostNumber} {
					r := impl.Reply{Code: code, Value: value, Names: names[:count]}
					if !wantReply(t, "right", q, r) {
						t.Error("it is right:", q, r)
					}
				}
			}
		}
	}
}

// What a request answers can be told, always.
func TestP14WhatIsAnsweredCanBeTold(t *testing.T) {
	met := map[string]int{}
	for _, m := range exampleImages() {
		for _, q := range reqsFor(m) {
			_, r, _ := impl.ReqDo(m, q)
			if !wantReply(t, "answered", q, r) {
				t.Error("it can be told:", named(q), r)
			}
			text, _ := impl.ReplyText(q, r)
			met[wordsIn(text)[0]]++
		}
	}
	for _, word := range []string{"ok", "range", "none", "many", "full", "twice", "name"} {
		if met[word] == 0 {
			t.Error("never told", word)
		}
	}
}

func noReplies() []impl.Reply {
	var out []impl.Reply
	for _, code := range []int{-1, 20, 21, 255, 256, 1 << 32, least, greatest} {
		out = append(out, impl.Reply{Code: code}, impl.Reply{Code: code, Value: 7, Names: []string{"a"}})
	}
	for _, value := range wrongNumbers() {
		out = append(out, impl.Reply{Value: value}, impl.Reply{Code: impl.ErrRange, Value: value}, impl.Reply{Value: value, Names: []string{"a"}})
	}
	for _, count := range []int{4, 5, 100, impl.MaxList, impl.MaxList + 1} {
		names := slices.Repeat([]string{"a"}, count)
		out = append(out, impl.Reply{Names: names}, impl.Reply{Code: impl.ErrNone, Names: names}, impl.Reply{Names: make([]string, count)})
	}
	for _, name := range append(noSnapNames(), longNames()...) {
		for at := range 3 {
			names := []string{"a", "b", "c"}
			names[at] = name
			out = append(out, impl.Reply{Names: names}, impl.Reply{Code: impl.ErrFull, Names: names[:at+1]})
		}
	}
	return append(out, impl.Reply{Code: 20, Value: -1, Names: make([]string, 4)}, impl.Reply{Code: -1, Value: 1 << 31, Names: []string{"A"}})
}

// Replies that are none cannot be told, whatever the request and whatever the code.
func TestP14RepliesThatAreNone(t *testing.T) {
	for _, r := range noReplies() {
		for _, q := range fewReqs() {
			if wantReply(t, "no reply", q, r) {
				t.Error("it is none:", r)
			}
		}
	}
	for _, q := range wrongReqs() {
		for _, r := range []impl.Reply{{}, {Code: impl.ErrRange}, {Value: 7, Names: []string{"a"}}, {Code: 20}, {Value: -1}, {Names: []string{"A"}}} {
			if wantReply(t, "no request", q, r) {
				t.Error("it is none:", named(q))
			}
		}
	}
}

// A name that is told twice is no fault of a reply's.
func TestP14NamesThatAreTwiceThere(t *testing.T) {
	q := impl.Req{Kind: impl.RqList}
	text, code := impl.ReplyText(q, impl.Reply{Value: 3, Names: []string{"a", "a", "a"}})
	if text != "ok 3 a a a" || code != impl.OK {
		t.Error("ReplyText", text, code)
	}
}
