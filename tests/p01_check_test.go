package tests

import (
	"slices"
	"testing"

	"loop.example/g00456/impl"
)

// Promise 1, of the calls of chapter 13. They stand among all calls on images (imageCalls); here they are, with images that they alone take, and what of them is told best by itself.

func checkCalls() []imageCall {
	return []imageCall{
		{"CountRefs", func(m impl.Image) (a imageAnswer) { a.list, a.code = impl.CountRefs(m); return a }},
		{"WrongRefs", func(m impl.Image) (a imageAnswer) { a.list, a.code = impl.WrongRefs(m); return a }},
		{"Leaks", func(m impl.Image) (a imageAnswer) { a.list, a.code = impl.Leaks(m); return a }},
		{"Repair", func(m impl.Image) (a imageAnswer) { a.image, a.code = impl.Repair(m); return a }},
	}
}

// damagedImages have wrong counts, and data that no table has.
func damagedImages() []impl.Image {
	var out []impl.Image
	for _, m := range fewImages() {
		for _, n := range []int{0, 1, 15} {
			out = append(out, imageLike(m, func(m *impl.Image) {
				for c, was := range m.Refs {
					if was == 0 {
						m.Data[c] = 900 + c
					}
				}
				m.Refs = evenRefs(n)
			}))
		}
	}
	return out
}

// An image whose lists are pieces of one memory, as its tables may well be: none of them is written, and the answer's are apart.
func TestP1RepairTakesListsThatShareMemory(t *testing.T) {
	table := roomyInts([]int{2, 0, 9, 25})
	m := impl.Image{Refs: roomyInts(evenRefs(3)), Table: table, Data: roomyInts(evenRefs(5))}
	for i := range 3 {
		m.Snaps = append(m.Snaps, impl.Snap{Name: string(rune('a' + i)), Table: table[:4-i]})
	}
	m.Snaps = guarded(m.Snaps, guardSnap)
	was := cloneImage(m)
	got, code := impl.Repair(m)
	want := imageOf([]int{2, 0, 9, 25}, []int{2, 0, 9, 25}, []int{2, 0, 9}, []int{2, 0})
	want.Data[0], want.Data[7], want.Data[23] = 5, 5, 5
	wantImage(t, "Repair", got, code, want, impl.OK)
	wantApart(t, "Repair", got)
	scribbleImage(got)
	if !sameImage(m, was) || !untouchedInts(table, []int{2, 0, 9, 25}) || !untouchedInts(m.Refs, was.Refs) || !untouchedInts(m.Data, was.Data) {
		t.Error("the argument was changed, or what stands behind its end:", m)
	}

	// Counts and data that are one list are none of the answer's, either.
	m.Refs = m.Data
	got, code = impl.Repair(m)
	wantImage(t, "Repair, counts and data as one", got, code, want, impl.OK)
	wantApart(t, "Repair, counts and data as one", got)
}

// What a call tells of one image is not what it told of another one ahead of it, in whatever order they come.
func TestP1ChecksHangOnNothingElse(t *testing.T) {
	images := slices.Concat(damagedImages(), exampleImages(), []impl.Image{{}})
	for _, c := range checkCalls() {
		var first []imageAnswer
		for _, m := range images {
			first = append(first, cloneImageAnswer(c.run(m)))
		}
		for i := range slices.Backward(images) {
			if again := c.run(cloneImage(images[i])); !sameImageAnswer(again, first[i]) {
				t.Error("another answer to alike arguments:", c.name, i)
			}
		}
	}
}
