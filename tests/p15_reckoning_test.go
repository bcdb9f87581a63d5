package tests

import (
	"math/rand"
	"slices"
	"strconv"
	"testing"

	"loop.example/g00456/impl"
)

// Promise 15: what an image shows and answers is what a guest has and answers, but that an image may be full.
// Here stands what the tests of it reckon with: guests that are made, held against each other, told and changed without the program. p11_reckoning_test.go has the images, p14_reckoning_test.go the requests.

func cloneGuest(g impl.Guest) impl.Guest {
	g.Values, g.Shots = slices.Clone(g.Values), slices.Clone(g.Shots)
	for i, s := range g.Shots {
		g.Shots[i].Values = slices.Clone(s.Values)
	}
	return g
}

// alikeGuests holds nil and empty lists for the same.
func alikeGuests(a, b impl.Guest) bool {
	return slices.Equal(a.Values, b.Values) &&
		slices.EqualFunc(a.Shots, b.Shots, func(x, y impl.Shot) bool { return x.Name == y.Name && slices.Equal(x.Values, y.Values) })
}

// valuesIn are the guest's own, and behind them those of each shot.
func valuesIn(g impl.Guest) [][]int {
	out := [][]int{g.Values}
	for _, s := range g.Shots {
		out = append(out, s.Values)
	}
	return out
}

func shotNames(g impl.Guest) []string {
	var out []string
	for _, s := range g.Shots {
		out = append(out, s.Name)
	}
	return out
}

func rightGuest(g impl.Guest) bool {
	for _, values := range valuesIn(g) {
		if len(values) > 12 || slices.ContainsFunc(values, func(n int) bool { return !rightNumber(n) }) {
			return false
		}
	}
	names := shotNames(g)
	rising := slices.Compact(slices.Sorted(slices.Values(names)))
	return len(names) <= 3 && len(rising) == len(names) && !slices.ContainsFunc(names, func(name string) bool { return !rightSnapName(name) })
}

// guestBy is what a right image shows.
func guestBy(m impl.Image) impl.Guest {
	g := impl.Guest{Values: shownBy(m, m.Table)}
	for _, s := range m.Snaps {
		g.Shots = append(g.Shots, impl.Shot{Name: s.Name, Values: shownBy(m, s.Table)})
	}
	return g
}

// guestFault is the code with which a right guest answers a right request.
func guestFault(g impl.Guest, q impl.Req) int {
	there := slices.Contains(shotNames(g), q.Name)
	switch {
	case q.Kind <= 3 && (q.G < 0 || q.G >= len(g.Values)), q.Kind == 2 && !rightNumber(q.Value), q.Kind == 4 && (q.G < 0 || q.G > 12):
		return impl.ErrRange
	case q.Kind == 5 && !rightSnapName(q.Name):
		return impl.ErrName
	case q.Kind == 5 && there:
		return impl.ErrTwice
	case q.Kind == 5 && len(g.Shots) == 3:
		return impl.ErrMany
	case (q.Kind == 6 || q.Kind == 7) && !there:
		return impl.ErrNone
	}
	return impl.OK
}

// guestDoneBy is what becomes of a right guest, and the reply.
func guestDoneBy(g impl.Guest, q impl.Req) (impl.Guest, impl.Reply) {
	g = cloneGuest(g)
	if code := guestFault(g, q); code != impl.OK {
		return g, impl.Reply{Code: code}
	}
	at := slices.Index(shotNames(g), q.Name)
	switch q.Kind {
	case 1:
		return g, impl.Reply{Value: g.Values[q.G]}
	case 2, 3:
		g.Values[q.G] = q.Value
	case 4:
		g.Values = append(g.Values, make([]int, 12)...)[:q.G]
	case 5:
		g.Shots = append(g.Shots, impl.Shot{Name: q.Name, Values: slices.Clone(g.Values)})
	case 6:
		g.Shots = append(g.Shots[:at:at], g.Shots[at+1:]...)
	case 7:
		g.Values = slices.Clone(g.Shots[at].Values)
	case 8:
		return g, impl.Reply{Value: len(g.Values), Names: shotNames(g)}
	}
	return g, impl.Reply{}
}

func guestTextBy(g impl.Guest) []string {
	var out []string
	for i, values := range valuesIn(g) {
		line := append([]string{"now"}, shotNames(g)...)[i] + ":"
		for _, n := range values {
			line += " " + strconv.Itoa(n)
		}
		out = append(out, line)
	}
	return out
}

// guestWith has shots "a", "b", "c" and so on of the other values.
func guestWith(values []int, shots ...[]int) impl.Guest {
	g := impl.Guest{Values: slices.Clone(values)}
	for i, s := range shots {
		g.Shots = append(g.Shots, impl.Shot{Name: string(rune('a' + i)), Values: slices.Clone(s)})
	}
	return g
}

func guestLike(g impl.Guest, change func(g *impl.Guest)) impl.Guest {
	g = cloneGuest(g)
	change(&g)
	return g
}

// fullGuest has as much as a guest may have, and no value twice: an image has no room for all of these.
func fullGuest() impl.Guest {
	g := guestWith(make([]int, 12), make([]int, 12), make([]int, 12), make([]int, 12))
	for i, values := range valuesIn(g) {
		for k := range values {
			values[k] = 100*i + k + 1
		}
	}
	return g
}

func randomGuest(r *rand.Rand) impl.Guest {
	var lists [][]int
	for range 1 + r.Intn(4) {
		values := make([]int, r.Intn(13))
		for i := range values {
			values[i] = []int{0, 1, mostNumber, r.Intn(1000)}[r.Intn(4)]
		}
		lists = append(lists, values)
	}
	return guestWith(lists[0], lists[1:]...)
}

// fewGuests are right, one of each sort.
func fewGuests() []impl.Guest {
	most := slices.Repeat([]int{mostNumber}, 12)
	return []impl.Guest{
		{}, guestWith(nil, nil), guestWith(nil, nil, nil, nil), guestWith([]int{5}), guestWith(make([]int, 12)), guestWith(most, most, most, most), fullGuest(),
		guestWith([]int{0, 7, mostNumber}, []int{7}, nil, make([]int, 12)),
		guestLike(guestWith([]int{1, 2, 3}, []int{3, 2, 1}, []int{1, 2}, []int{4}), func(g *impl.Guest) { g.Shots[0].Name, g.Shots[1].Name, g.Shots[2].Name = "zzzzzz", "z", "now" }),
	}
}

// exampleGuests are right, what the example images show among them.
func exampleGuests() []impl.Guest {
	out := fewGuests()
	for size := range 13 {
		values := clustersFrom(5, size)
		out = append(out, guestWith(values), guestWith(nil, values), guestWith(values, nil, values), guestWith(values, values, nil, make([]int, 12-size)))
	}
	for _, m := range storeImages() {
		out = append(out, guestBy(m))
	}
	r := rand.New(rand.NewSource(150))
	for range 40 {
		out = append(out, randomGuest(r))
	}
	return out
}

type namedGuest struct {
	name  string
	guest impl.Guest
}

// wrongGuests are not right in one way each, the last ones in several.
func wrongGuests() []namedGuest {
	var out []namedGuest
	add := func(name string, g impl.Guest, change func(g *impl.Guest)) {
		out = append(out, namedGuest{name, guestLike(g, change)})
	}
	for list := range 4 {
		where := " in list " + strconv.Itoa(list)
		for _, size := range []int{13, 14, 24, 255, 256, impl.MaxList, impl.MaxList + 1} {
			lists := slices.Insert([][]int{{1, 2}, nil, {3}}, list, make([]int, size))
			out = append(out, namedGuest{strconv.Itoa(size) + " values" + where, guestWith(lists[0], lists[1:]...)})
		}
		for _, at := range []int{0, 5, 11} {
			for _, n := range wrongNumbers() {
				add("no number"+where, fullGuest(), func(g *impl.Guest) { valuesIn(*g)[list][at] = n })
			}
		}
	}
	for _, size := range []int{4, 5, 256, impl.MaxList, impl.MaxList + 1} {
		add(strconv.Itoa(size)+" shots", guestWith(nil), func(g *impl.Guest) {
			for i := range size {
				g.Shots = append(g.Shots, impl.Shot{Name: numberedName(i), Values: []int{i}})
			}
		})
	}
	for i := range 3 {
		for _, name := range append(noSnapNames(), longNames()...) {
			add("no name", fullGuest(), func(g *impl.Guest) { g.Shots[i].Name = name })
		}
		add("a name twice", fullGuest(), func(g *impl.Guest) { g.Shots[i].Name = g.Shots[(i+1)%3].Name })
		add("a shot twice", fullGuest(), func(g *impl.Guest) { g.Shots[i] = g.Shots[(i+1)%3] })
	}
	add("one name of all", fullGuest(), func(g *impl.Guest) { g.Shots[1].Name, g.Shots[2].Name = "a", "a" })
	add("a shot alone, without a name", impl.Guest{}, func(g *impl.Guest) { g.Shots = make([]impl.Shot, 1) })
	add("all of it", impl.Guest{}, func(g *impl.Guest) {
		*g = impl.Guest{Values: slices.Repeat([]int{-1}, 13), Shots: slices.Repeat([]impl.Shot{{Name: "A", Values: []int{greatest}}}, 4)}
	})
	return out
}

// numberedName is a right name, another one of each number.
func numberedName(i int) string {
	return string([]byte{'a' + byte(i/676), 'a' + byte(i/26%26), 'a' + byte(i%26)})
}

// fewWrongGuests are one of each sort.
func fewWrongGuests() []impl.Guest {
	var out []impl.Guest
	seen := map[string]int{}
	for _, w := range wrongGuests() {
		if seen[w.name]++; seen[w.name] == 1 {
			out = append(out, w.guest)
		}
	}
	return out
}

// reqsForGuest are right requests that fit a guest, and those at its bounds.
func reqsForGuest(g impl.Guest) []impl.Req {
	m := impl.Image{Table: make([]int, len(g.Values))}
	for _, name := range shotNames(g) {
		m.Snaps = append(m.Snaps, impl.Snap{Name: name})
	}
	return append(reqsFor(m), impl.Req{Kind: 5, Name: "b"}, impl.Req{Kind: 5, Name: "sevena"}, impl.Req{Kind: 5, Name: "sevenaa"})
}

func wantGuest(t *testing.T, where string, got impl.Guest, code int, want impl.Guest, wantCode int) {
	t.Helper()
	if !alikeGuests(got, want) || code != wantCode {
		t.Errorf("%s: code %d, not %d; %v, not %v", where, code, wantCode, got, want)
	}
}

func wantNoGuest(t *testing.T, where string, got impl.Guest, code int) {
	t.Helper()
	wantGuest(t, where, got, code, impl.Guest{}, impl.ErrBad)
}

func TestP15ReckoningIsRight(t *testing.T) {
	names := map[string]int{}
	for i := range impl.MaxList + 1 {
		if names[numberedName(i)]++; !rightSnapName(numberedName(i)) || names[numberedName(i)] > 1 {
			t.Fatal("no name of its own:", i, numberedName(i))
		}
	}
	for _, g := range exampleGuests() {
		if !rightGuest(g) {
			t.Error("an example is not right:", g)
		}
		for _, q := range reqsForGuest(g) {
			if next, _ := guestDoneBy(g, q); !rightReq(q) || !rightGuest(next) {
				t.Error("not right any more:", named(q), next)
			}
		}
	}
	for _, w := range wrongGuests() {
		if rightGuest(w.guest) {
			t.Error("a wrong one is right:", w.name)
		}
	}
}
