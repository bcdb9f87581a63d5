package tests

import (
	"slices"
	"strconv"
	"strings"
	"testing"

	"loop.example/g00456/impl"
)

// Promise 15, of what guests are and of what images show; p15_reckoning_test.go says what it is held against.

func TestP15WhichGuestsAreRight(t *testing.T) {
	for _, g := range exampleGuests() {
		if !impl.GuestOK(g) {
			t.Error("it is right:", g)
		}
	}
	for _, w := range wrongGuests() {
		if impl.GuestOK(w.guest) {
			t.Error("it is not right:", w.name)
		}
	}
}

// Right guests with one number changed, or one name: what is right still is reckoned.
func TestP15GuestsWithOneThingChanged(t *testing.T) {
	met := map[bool]int{}
	try := func(g impl.Guest) {
		t.Helper()
		met[rightGuest(g)]++
		if impl.GuestOK(g) != rightGuest(g) {
			t.Error("right or not:", g)
		}
	}
	for _, g := range exampleGuests() {
		for list, values := range valuesIn(g) {
			for at := range values {
				for _, n := range []int{0, mostNumber, mostNumber + 1, -1, values[at] + 1, values[at] - 1, least, greatest} {
					try(guestLike(g, func(g *impl.Guest) { valuesIn(*g)[list][at] = n }))
				}
			}
		}
		for i := range g.Shots {
			for _, name := range []string{"a", "b", "c", "abcdef", "abcdefg", "", "B"} {
				try(guestLike(g, func(g *impl.Guest) { g.Shots[i].Name = name }))
			}
		}
	}
	if met[true] < 1000 || met[false] < 1000 {
		t.Error("too few of one sort:", met)
	}
}

func TestP15NewGuests(t *testing.T) {
	for size := range 13 {
		where := "NewGuest " + strconv.Itoa(size)
		g, code := impl.NewGuest(size)
		wantGuest(t, where, g, code, guestWith(make([]int, size)), impl.OK)
		if !impl.GuestOK(g) {
			t.Error(where, "is not right")
		}
		m, _ := impl.NewImage(size)
		shown, code := impl.GuestOf(m)
		wantGuest(t, where+", as a new image shows it", shown, code, g, impl.OK)
	}
	for _, size := range noSizes() {
		g, code := impl.NewGuest(size)
		wantGuest(t, "NewGuest "+strconv.Itoa(size), g, code, impl.Guest{}, impl.ErrRange)
	}
}

func TestP15WhatAnImageShowsByHand(t *testing.T) {
	m := imageOf([]int{0, 1, 2, 25, 9}, []int{25, 1, 0}, nil, []int{2})
	m.Snaps[0].Name, m.Snaps[2].Name = "zz", "now"
	m.Data[7] = 0
	g, code := impl.GuestOf(m)
	wantGuest(t, "GuestOf", g, code, impl.Guest{Values: []int{0, 0, 100, 123, 0}, Shots: []impl.Shot{
		{Name: "zz", Values: []int{123, 0, 0}}, {Name: "b"}, {Name: "now", Values: []int{100}},
	}}, impl.OK)
}

// What ReadCluster answers of the image, and of each snapshot that it is set back to.
func TestP15GuestsAreWhatIsRead(t *testing.T) {
	snaps := map[int]int{}
	for i, m := range storeImages() {
		where := "image " + strconv.Itoa(i)
		g, code := impl.GuestOf(m)
		wantGuest(t, where, g, code, guestBy(m), impl.OK)
		if !impl.GuestOK(g) || !slices.Equal(shotNames(g), namesBy(m)) {
			t.Error(where, "shows no right guest:", g)
		}
		wantShown(t, where, m, g.Values)
		for _, s := range g.Shots {
			back, code := impl.SnapRevert(m, s.Name)
			wantOK(t, where+": SnapRevert "+s.Name, code)
			wantShown(t, where+": snapshot "+s.Name, back, s.Values)
			shown, code := impl.GuestOf(back)
			wantGuest(t, where+", set back to "+s.Name, shown, code, impl.Guest{Values: s.Values, Shots: g.Shots}, impl.OK)
		}
		snaps[len(m.Snaps)]++
	}
	if len(snaps) != 4 {
		t.Error("not all numbers of snapshots:", snaps)
	}
}

// A guest knows no holes, and not which clusters tables have nor whether they share them: images that show the same are the same guest.
func TestP15ImagesThatShowTheSame(t *testing.T) {
	five := func(m *impl.Image) {
		for c, n := range m.Refs {
			m.Data[c] = 5 * min(n, 1)
		}
	}
	for i, images := range [][]impl.Image{
		{imageOf(evenTable(4, 0)), imageOf(evenTable(4, 1)), imageOf([]int{0, 1, 1, 0}), imageLike(imageOf([]int{9, 0, 2, 1}), func(m *impl.Image) { m.Data[7], m.Data[0] = 0, 0 })},
		{imageLike(imageOf([]int{2, 3}, []int{2, 3}), five), imageLike(imageOf([]int{2, 3}, []int{3, 2}), five), imageLike(imageOf([]int{2, 3}, []int{4, 5}), five), imageLike(imageOf([]int{25, 3}, []int{3, 9}), five)},
		{imageLike(imageOf([]int{2, 0}, []int{1}, nil, []int{2}), five), imageLike(imageOf([]int{7, 1}, []int{0}, nil, []int{8}), five)},
	} {
		first, code := impl.GuestOf(images[0])
		wantOK(t, "GuestOf", code)
		for _, m := range images {
			g, code := impl.GuestOf(m)
			wantGuest(t, "images "+strconv.Itoa(i), g, code, first, impl.OK)
			if !impl.SameGuest(first, g) || !impl.ImageOK(m) {
				t.Error("they show the same:", images[0], m)
			}
		}
	}
}

func TestP15ImagesThatAreNotRight(t *testing.T) {
	for _, w := range wrongImages() {
		g, code := impl.GuestOf(w.image)
		wantNoGuest(t, w.name, g, code)
	}
	for _, m := range damagedImages() {
		g, code := impl.GuestOf(m)
		if rightImage(m) {
			wantGuest(t, "a count that happens to fit", g, code, guestBy(m), impl.OK)
		} else {
			wantNoGuest(t, "a wrong count", g, code)
		}
	}
}

// wantSameGuest asks both ways round.
func wantSameGuest(t *testing.T, where string, a, b impl.Guest, want bool) {
	t.Helper()
	if impl.SameGuest(a, b) != want || impl.SameGuest(b, a) != want {
		t.Errorf("%s: SameGuest is not %t of %v and %v", where, want, a, b)
	}
}

// changedGuests are a guest with one thing changed each.
func changedGuests(g impl.Guest) []namedGuest {
	var out []namedGuest
	add := func(name string, change func(g *impl.Guest)) {
		out = append(out, namedGuest{name, guestLike(g, change)})
	}
	add("one more value", func(g *impl.Guest) { g.Values = append(g.Values, 0) })
	add("one more shot", func(g *impl.Guest) { g.Shots = append(g.Shots, impl.Shot{Name: "new"}) })
	add("a shot without a name", func(g *impl.Guest) { g.Shots = append(g.Shots, impl.Shot{}) })
	for i, s := range g.Shots {
		add("a shot less", func(g *impl.Guest) { g.Shots = slices.Delete(g.Shots, i, i+1) })
		add("a shot's name", func(g *impl.Guest) { g.Shots[i].Name += "x" })
		add("a shot's letter", func(g *impl.Guest) { g.Shots[i].Name = strings.ToUpper(s.Name) })
		add("a shot's length", func(g *impl.Guest) { g.Shots[i].Values = append(g.Shots[i].Values, 0) })
		if i > 0 {
			add("shots' order", func(g *impl.Guest) { g.Shots[i], g.Shots[0] = g.Shots[0], g.Shots[i] })
			add("shots' names, changed over", func(g *impl.Guest) { g.Shots[i].Name, g.Shots[0].Name = g.Shots[0].Name, g.Shots[i].Name })
		}
	}
	for list, values := range valuesIn(g) {
		for at := range values {
			for _, by := range []int{1, -1, 256, 1 << 31, 1 << 32} {
				add("one value", func(g *impl.Guest) { valuesIn(*g)[list][at] += by })
			}
		}
		if len(values) > 0 && list == 0 {
			add("one value less", func(g *impl.Guest) { g.Values = g.Values[:len(values)-1] })
		}
		if len(values) > 0 && list > 0 {
			add("one value of a shot's less", func(g *impl.Guest) { g.Shots[list-1].Values = values[:len(values)-1] })
		}
	}
	return out
}

func TestP15WhichGuestsAreTheSame(t *testing.T) {
	for _, g := range exampleGuests() {
		wantSameGuest(t, "itself", g, g, true)
		wantSameGuest(t, "a copy", g, cloneGuest(g), true)
		for _, x := range changedGuests(g) {
			// To change names over changes nothing where shots are otherwise alike.
			if want := alikeGuests(g, x.guest); !want || x.name == "shots' names, changed over" {
				wantSameGuest(t, x.name, g, x.guest, want)
			} else {
				t.Error("nothing is changed:", x.name)
			}
		}
	}
	few := fewGuests()
	for i, a := range few {
		for k, b := range few {
			wantSameGuest(t, "guests "+strconv.Itoa(i)+" and "+strconv.Itoa(k), a, b, i == k)
		}
	}
	wantSameGuest(t, "values that are a shot's", guestWith([]int{1}), guestWith(nil, []int{1}), false)
	wantSameGuest(t, "values of another shot", guestWith(nil, []int{1}, nil), guestWith(nil, nil, []int{1}), false)
	wantSameGuest(t, "names and values of another order", guestWith(nil, []int{1}, []int{2}), guestWith(nil, []int{2}, []int{1}), false)
}

// Guests that are not right are the same, too, if all of them is alike.
func TestP15WrongGuestsAreHeldAgainstEachOther(t *testing.T) {
	few := fewWrongGuests()
	for i, g := range few {
		wantSameGuest(t, "a copy", g, cloneGuest(g), true)
		wantSameGuest(t, "none", g, impl.Guest{}, false)
		for k, x := range few {
			wantSameGuest(t, "wrong ones "+strconv.Itoa(i)+" and "+strconv.Itoa(k), g, x, alikeGuests(g, x))
		}
	}
}

func TestP15TextsByHand(t *testing.T) {
	for i, c := range []struct {
		guest impl.Guest
		want  []string
	}{
		{impl.Guest{}, []string{"now:"}},
		{guestWith([]int{0}), []string{"now: 0"}},
		{guestWith([]int{0, 7, mostNumber}), []string{"now: 0 7 2147483647"}},
		{guestWith(nil, nil), []string{"now:", "a:"}},
		{guestWith([]int{10}, nil, []int{20, 0}, []int{3}), []string{"now: 10", "a:", "b: 20 0", "c: 3"}},
		{impl.Guest{Shots: []impl.Shot{{Name: "zzzzzz", Values: []int{1}}, {Name: "now", Values: []int{2}}}}, []string{"now:", "zzzzzz: 1", "now: 2"}},
		{guestWith(make([]int, 12)), []string{"now: 0 0 0 0 0 0 0 0 0 0 0 0"}},
	} {
		if got, code := impl.GuestText(c.guest); !slices.Equal(got, c.want) || code != impl.OK {
			t.Errorf("GuestText %d: %q, not %q, with code %d", i, got, c.want, code)
		}
	}
}

func TestP15Texts(t *testing.T) {
	texts := map[string]impl.Guest{}
	for _, g := range exampleGuests() {
		got, code := impl.GuestText(g)
		if !slices.Equal(got, guestTextBy(g)) || code != impl.OK {
			t.Errorf("GuestText: %q, not %q, with code %d", got, guestTextBy(g), code)
		}
		all := strings.Join(got, "\n")
		if x, ok := texts[all]; ok && !alikeGuests(x, g) {
			t.Error("two guests have one text:", x, g)
		}
		texts[all] = g
	}
	for _, w := range wrongGuests() {
		if got, code := impl.GuestText(w.guest); len(got) != 0 || code != impl.ErrBad {
			t.Error(w.name, "is told:", len(got), code)
		}
	}
}
