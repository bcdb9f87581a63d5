package tests

import (
	"math/rand"
	"slices"
	"strconv"
	"strings"
	"testing"

	"loop.example/g00456/impl"
)

// Promise 14: requests are read back from their texts; with a code nothing is changed.
// Here stands what the tests of it reckon with: requests that are done, told and read without the program. p11_reckoning_test.go has the images, and changes them.

// kindWords are the words of kinds 1 to 8.
var kindWords = []string{"read", "write", "zero", "resize", "create", "delete", "revert", "list"}

func usesG(kind int) bool     { return kind >= 1 && kind <= 4 }
func usesValue(kind int) bool { return kind == 2 }
func usesName(kind int) bool  { return kind >= 5 && kind <= 7 }

func rightReq(q impl.Req) bool {
	return q.Kind >= 1 && q.Kind <= 8 && len(q.Name) <= 65536 &&
		(q.G == 0 || usesG(q.Kind)) && (q.Value == 0 || usesValue(q.Kind)) && (q.Name == "" || usesName(q.Kind))
}

func rightNumber(n int) bool {
	return n >= 0 && n <= mostNumber
}

// doneBy is what becomes of a right image, and the reply.
func doneBy(m impl.Image, q impl.Req) (impl.Image, impl.Reply) {
	code := impl.OK
	switch q.Kind {
	case 1:
		if q.G < 0 || q.G >= len(m.Table) {
			return m, impl.Reply{Code: impl.ErrRange}
		}
		return m, impl.Reply{Value: shownBy(m, m.Table)[q.G]}
	case 2:
		m, code = writeBy(m, q.G, q.Value)
	case 3:
		m, code = zeroBy(m, q.G)
	case 4:
		m, code = resizeBy(m, q.G)
	case 5:
		m, code = createBy(m, q.Name)
	case 6:
		m, code = deleteBy(m, q.Name)
	case 7:
		m, code = revertBy(m, q.Name)
	case 8:
		return m, impl.Reply{Value: len(m.Table), Names: namesBy(m)}
	}
	return m, impl.Reply{Code: code}
}

// chapterEleven is what the calls on images answer, code and all, told as a reply.
func chapterEleven(m impl.Image, q impl.Req) (impl.Image, impl.Reply) {
	var r impl.Reply
	out := m
	switch q.Kind {
	case impl.RqRead:
		r.Value, r.Code = impl.ReadCluster(m, q.G)
	case impl.RqWrite:
		out, r.Code = impl.WriteCluster(m, q.G, q.Value)
	case impl.RqZero:
		out, r.Code = impl.ZeroCluster(m, q.G)
	case impl.RqResize:
		out, r.Code = impl.ResizeImage(m, q.G)
	case impl.RqCreate:
		out, r.Code = impl.SnapCreate(m, q.Name)
	case impl.RqDelete:
		out, r.Code = impl.SnapDelete(m, q.Name)
	case impl.RqRevert:
		out, r.Code = impl.SnapRevert(m, q.Name)
	case impl.RqList:
		r.Value = len(m.Table)
		r.Names, r.Code = impl.SnapNames(m)
	}
	return out, r
}

func textBy(q impl.Req) (string, bool) {
	if !rightReq(q) || !rightNumber(q.G) || !rightNumber(q.Value) || usesName(q.Kind) && !rightSnapName(q.Name) {
		return "", false
	}
	text := kindWords[q.Kind-1]
	if usesG(q.Kind) {
		text += " " + strconv.Itoa(q.G)
	}
	if usesValue(q.Kind) {
		text += " " + strconv.Itoa(q.Value)
	}
	if usesName(q.Kind) {
		text += " " + q.Name
	}
	return text, true
}

// wordsIn goes byte by byte.
func wordsIn(t string) []string {
	var out []string
	for i := range len(t) {
		switch {
		case t[i] == ' ':
		case i == 0 || t[i-1] == ' ':
			out = append(out, t[i:i+1])
		default:
			out[len(out)-1] += t[i : i+1]
		}
	}
	return out
}

// numberIn tells a number back, and takes it only if that is the text.
func numberIn(word string) (int, bool) {
	n, err := strconv.Atoi(word)
	return n, err == nil && strconv.Itoa(n) == word && rightNumber(n)
}

func requestIn(t string) (impl.Req, bool) {
	words := wordsIn(t)
	if len(words) == 0 {
		return impl.Req{}, false
	}
	q := impl.Req{Kind: slices.Index(kindWords, words[0]) + 1}
	count := 1
	if usesG(q.Kind) || usesName(q.Kind) {
		count++
	}
	if usesValue(q.Kind) {
		count++
	}
	if q.Kind == 0 || len(words) != count {
		return impl.Req{}, false
	}
	ok := true
	if usesG(q.Kind) {
		q.G, ok = numberIn(words[1])
	}
	if ok && usesValue(q.Kind) {
		q.Value, ok = numberIn(words[2])
	}
	if usesName(q.Kind) {
		q.Name, ok = words[1], rightSnapName(words[1])
	}
	if !ok {
		return impl.Req{}, false
	}
	return q, true
}

func replyTextBy(q impl.Req, r impl.Reply) (string, bool) {
	if !rightReq(q) || r.Code < 0 || r.Code > 19 || !rightNumber(r.Value) || len(r.Names) > 3 {
		return "", false
	}
	text := documentCodes()[r.Code].word
	for _, name := range r.Names {
		if !rightSnapName(name) {
			return "", false
		}
	}
	if r.Code != 0 {
		return text, true
	}
	if q.Kind == 1 || q.Kind == 8 {
		text += " " + strconv.Itoa(r.Value)
	}
	for _, name := range r.Names {
		text += " " + name
	}
	return text, true
}

func sameReply(a, b impl.Reply) bool {
	return a.Code == b.Code && a.Value == b.Value && slices.Equal(a.Names, b.Names)
}

// anyNumbers are right ones and others, up to the greatest and least integers.
func anyNumbers() []int {
	return append(wrongNumbers(), 0, 1, 2, 5, 9, 10, 11, 12, 13, 23, 24, 100, 4096, 1<<31-2, mostNumber)
}

// rightReqs are of each kind, with any numbers and names: whether the image has such a place or name is another matter.
func rightReqs() []impl.Req {
	out := []impl.Req{{Kind: 8}}
	for _, g := range anyNumbers() {
		for _, kind := range []int{1, 3, 4} {
			out = append(out, impl.Req{Kind: kind, G: g})
		}
		for _, value := range anyNumbers() {
			out = append(out, impl.Req{Kind: 2, G: g, Value: value})
		}
	}
	for _, name := range anySnapNames() {
		for _, kind := range []int{5, 6, 7} {
			out = append(out, impl.Req{Kind: kind, Name: name})
		}
	}
	return out
}

// wrongReqs have no kind, something that they have no use for, or a name that is too long.
func wrongReqs() []impl.Req {
	var out []impl.Req
	for _, kind := range []int{0, 9, 10, -1, -8, 255, 256, 257, 1 << 32, 1<<32 + 1, least, least + 1, greatest} {
		out = append(out, impl.Req{Kind: kind}, impl.Req{Kind: kind, G: 1}, impl.Req{Kind: kind, G: 1, Value: 7}, impl.Req{Kind: kind, Name: "a"}, impl.Req{Kind: kind, G: 1, Value: 7, Name: "a"})
	}
	for kind := 1; kind <= 8; kind++ {
		for _, n := range []int{1, 2, -1, 100, mostNumber, mostNumber + 1, 1 << 32, least, greatest} {
			if !usesG(kind) {
				out = append(out, impl.Req{Kind: kind, G: n}, impl.Req{Kind: kind, G: n, Name: "a"})
			}
			if !usesValue(kind) {
				out = append(out, impl.Req{Kind: kind, Value: n}, impl.Req{Kind: kind, Value: n, Name: "a"}, impl.Req{Kind: kind, G: n, Value: n}, impl.Req{Kind: kind, G: n, Value: -n})
			}
		}
		for _, name := range []string{"a", "b", "zzzzzz", "A", " ", "\x00", strings.Repeat("a", 65536)} {
			if !usesName(kind) {
				out = append(out, impl.Req{Kind: kind, Name: name}, impl.Req{Kind: kind, G: 1, Name: name}, impl.Req{Kind: kind, G: 1, Value: 2, Name: name})
			}
		}
		for _, name := range longNames() {
			out = append(out, impl.Req{Kind: kind, Name: name})
		}
	}
	return out
}

// reqsFor are right requests that fit an image, and those at its bounds.
func reqsFor(m impl.Image) []impl.Req {
	out := []impl.Req{{Kind: 8}}
	for _, g := range []int{0, 1, 2, 5, 11, 12, 13, len(m.Table) - 1, len(m.Table), -1, mostNumber, mostNumber + 1, 1 << 32, least, greatest} {
		for _, kind := range []int{1, 3, 4} {
			out = append(out, impl.Req{Kind: kind, G: g})
		}
		for _, value := range []int{0, 1, 100, mostNumber, mostNumber + 1, -1, least, greatest} {
			out = append(out, impl.Req{Kind: 2, G: g, Value: value})
		}
	}
	names := append(namesBy(m), "a", "c", "d", "new", "zzzzzz", "abcdef", "", "A", "sevenab", "a b", strings.Repeat("a", 65536), strings.Repeat("\xff", 65536))
	for _, name := range names {
		for _, kind := range []int{5, 6, 7} {
			out = append(out, impl.Req{Kind: kind, Name: name})
		}
	}
	return out
}

func anyReq(r *rand.Rand) impl.Req {
	kind := 1 + r.Intn(8)
	if r.Intn(3) == 0 {
		kind = 2
	}
	q := impl.Req{Kind: kind}
	if usesG(kind) {
		q.G = r.Intn(14) - 1
	}
	if usesValue(kind) {
		q.Value = []int{0, mostNumber, r.Intn(1000), -1}[r.Intn(31)/10]
	}
	if usesName(kind) {
		q.Name = []string{"a", "b", "c", "dddddd", "Z"}[r.Intn(5)]
	}
	return q
}

func TestP14ReckoningIsRight(t *testing.T) {
	for _, q := range rightReqs() {
		if !rightReq(q) {
			t.Error("it is right:", q.Kind, q.G, q.Value, len(q.Name))
		}
		if text, ok := textBy(q); ok {
			if back, ok := requestIn(text); back != q || !ok {
				t.Error("not read back:", text, back)
			}
		}
	}
	for _, q := range wrongReqs() {
		if rightReq(q) {
			t.Error("it is not right:", q.Kind, q.G, q.Value, len(q.Name))
		}
	}
	for _, m := range exampleImages() {
		for _, q := range reqsFor(m) {
			if !rightReq(q) {
				t.Error("it is right:", q.Kind, q.G, q.Value, len(q.Name))
			}
		}
	}
}
