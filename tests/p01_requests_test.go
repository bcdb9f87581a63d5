package tests

import (
	"slices"
	"strconv"
	"strings"
	"testing"

	"loop.example/g00456/impl"
)

// Promise 1, of the calls of chapter 14. ReqDo stands among all calls on images (imageCalls); here it is, and what of the others is told best by itself.

// reqCalls are requests of each kind, that are done, that have a code, and that are not right.
func reqCalls() []imageCall {
	var out []imageCall
	for _, q := range append(fewReqs(), impl.Req{Kind: 2, G: 0, Value: mostNumber}, impl.Req{Kind: 4, G: 12}, impl.Req{Kind: 4}, impl.Req{Kind: 6, Name: "a"}, impl.Req{Kind: 6, Name: "c"}, impl.Req{Kind: 7, Name: "b"},
		impl.Req{}, impl.Req{Kind: 9}, impl.Req{Kind: 1, Value: 1}, impl.Req{Kind: 5, Name: strings.Repeat("a", impl.MaxText+1)}) {
		out = append(out, imageCall{"ReqDo", func(m impl.Image) (a imageAnswer) { a.image, a.reply, a.code = impl.ReqDo(m, q); return a }})
	}
	return out
}

// requestsBusy is what may be called between two alike calls.
func requestsBusy() {
	m, _ := impl.NewImage(5)
	for _, text := range []string{"write 2 22", "create busy", "list", "revert busy", "read 9", "go"} {
		q, _ := impl.ReadReq(text)
		next, r, code := impl.ReqDo(m, q)
		if code == impl.OK {
			m = next
		}
		impl.ReqText(q)
		impl.ReplyText(q, r)
	}
	impl.ReplyText(impl.Req{}, impl.Reply{Names: make([]string, 9)})
}

// textAnswer is what the calls with texts answer; what a call has not stays zero.
type textAnswer struct {
	text string
	req  impl.Req
	code int
}

type textCall struct {
	name string
	run  func() textAnswer
}

func reqTextCalls() []textCall {
	var out []textCall
	for _, q := range slices.Concat(fewReqs(), rightReqs(), wrongReqs()) {
		out = append(out,
			textCall{"ReqOK", func() textAnswer { return textAnswer{code: -numberOf(impl.ReqOK(q))} }},
			textCall{"ReqText", func() (a textAnswer) { a.text, a.code = impl.ReqText(q); return a }})
		for _, r := range []impl.Reply{{}, {Code: impl.ErrFull}, {Value: 7, Names: []string{"a", "b"}}, {Code: 20}} {
			out = append(out, textCall{"ReplyText", func() (a textAnswer) { a.text, a.code = impl.ReplyText(q, r); return a }})
		}
	}
	for _, r := range noReplies() {
		out = append(out, textCall{"ReplyText", func() (a textAnswer) { a.text, a.code = impl.ReplyText(impl.Req{Kind: 8}, r); return a }})
	}
	for _, text := range slices.Concat([]string{"", " ", "read 1", "write 1 2", "zero 3", "resize 4", "create a", "delete a", "revert a", "list", " list  ", "go"}, anyTexts(), anySnapNames(), longNames()) {
		for _, t := range []string{text, "create " + text, "read " + text} {
			out = append(out, textCall{"ReadReq", func() (a textAnswer) { a.req, a.code = impl.ReadReq(t); return a }})
		}
	}
	return out
}

// They answer no memory that can be written: what is left is that they are alike, whatever was called between, and in whatever order.
func TestP1RequestsHaveAlikeAnswers(t *testing.T) {
	calls := reqTextCalls()
	var first []textAnswer
	for _, c := range calls {
		first = append(first, c.run())
	}
	for i, c := range slices.Backward(calls) {
		requestsBusy()
		if again := c.run(); again != first[i] {
			t.Error("another answer to alike arguments:", c.name, i)
		}
	}
}

func TestP1RequestsWithACodeAllElseIsZero(t *testing.T) {
	met := map[string]map[int]int{"ReqOK": {}, "ReqText": {}, "ReplyText": {}, "ReadReq": {}}
	for i, c := range reqTextCalls() {
		a := c.run()
		met[c.name][a.code]++
		if c.name != "ReqOK" && a.code != impl.OK && a != (textAnswer{code: a.code}) {
			t.Error("something is told with a code:", c.name, i, a.code)
		}
	}
	for name, want := range map[string][]int{
		"ReqOK":     {0, -1},
		"ReqText":   {impl.OK, impl.ErrBad},
		"ReplyText": {impl.OK, impl.ErrBad},
		"ReadReq":   {impl.OK, impl.ErrForm, impl.ErrLong},
	} {
		for _, code := range want {
			if met[name][code] == 0 {
				t.Error(name, "never answered", code)
			}
		}
		if len(met[name]) != len(want) {
			t.Error(name, "answered other codes:", met[name])
		}
	}
}

// A reply's names are not written, nor is what stands behind them, where a careless append would write.
func TestP1RepliesLeaveTheirNamesAsTheyAre(t *testing.T) {
	for _, q := range append(fewReqs(), impl.Req{}, impl.Req{Kind: 9}) {
		for _, names := range [][]string{nil, {"a"}, {"b", "a"}, {"c", "b", "a"}, {"d", "c", "b", "a"}, {"A"}} {
			for _, code := range []int{impl.OK, impl.ErrFull, 20} {
				given := guarded(names, guard)
				impl.ReplyText(q, impl.Reply{Code: code, Value: 7, Names: given})
				if !slices.Equal(given, names) || !slices.Equal(given[len(given):len(given)+3], []string{guard, guard, guard}) {
					t.Fatal("the names were changed, or what stands behind them:", given)
				}
			}
		}
	}
}

func TestP1RepliesHoldNilAndEmptyForTheSame(t *testing.T) {
	for _, q := range append(fewReqs(), impl.Req{}) {
		for _, r := range []impl.Reply{{}, {Value: 7}, {Code: impl.ErrFull}, {Value: -1}} {
			none, empty := r, r
			none.Names, empty.Names = nil, []string{}
			first, firstCode := impl.ReplyText(q, none)
			second, secondCode := impl.ReplyText(q, empty)
			if first != second || firstCode != secondCode {
				t.Error("nil and an empty list are told apart:", named(q), r)
			}
		}
	}
}

// Image and reply of one answer are apart: writing into one's lists changes nothing of the other.
func TestP1RequestsAnswerListsThatAreApart(t *testing.T) {
	for i, m := range exampleImages() {
		for _, q := range reqsFor(m) {
			got, r, _ := impl.ReqDo(m, q)
			wantApart(t, "ReqDo of image "+strconv.Itoa(i), got)
			was := cloneImage(got)
			fillUp(r.Names, "scribbled")
			if !sameImage(got, was) {
				t.Fatal("writing into the names changed the image:", named(q))
			}
			got, r, _ = impl.ReqDo(m, q)
			names := slices.Clone(r.Names)
			scribbleImage(got)
			if !slices.Equal(r.Names, names) {
				t.Fatal("writing into the image changed the names:", named(q))
			}
		}
	}
}

// An image whose lists are pieces of one memory: none of them is written, and the answer's are apart.
func TestP1RequestsTakeListsThatShareMemory(t *testing.T) {
	table := roomyInts([]int{2, 0, 9, 25})
	m := imageOf(table, table, table[:3], table[:2])
	m.Table, m.Snaps = table, guarded(m.Snaps, guardSnap)
	for i := range m.Snaps {
		m.Snaps[i].Table = table[:4-i]
	}
	was := cloneImage(m)
	for _, q := range reqsFor(m) {
		got, _ := wantDone(t, "shared lists", m, q)
		wantApart(t, "shared lists", got)
		scribbleImage(got)
		if !sameImage(m, was) || !untouchedInts(table, []int{2, 0, 9, 25}) {
			t.Fatal("the argument was changed, or what stands behind its end:", named(q))
		}
	}
}
