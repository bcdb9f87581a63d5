package tests

import (
	"fmt"
	"slices"
	"strings"
	"testing"

	"loop.example/g00456/impl"
)

// Promise 18, the theorem of the whole: whatever lines come, crashes and takeovers among them, it agrees with its guest, its counts are right, and a host that opens when all seem dead finds all of it.
// Here stands what is asked behind any lines; p17_reckoning_test.go reads and answers lines without the program.

// wantWhole asks for all that is promised behind these lines, and answers the world.
func wantWhole(t *testing.T, where string, lines []string) impl.World {
	t.Helper()
	w, said, code := impl.RunLines(lines)
	wantOK(t, where, code)
	wantPromised(t, where, w)
	if slices.Contains(said, "agree no") || slices.Contains(said, "error broken") || slices.Contains(said, "error abort") || slices.Contains(said, "error stale") {
		t.Errorf("%s: said %q", where, said)
	}
	if w.Maybe == (impl.Req{}) {
		wantCounted(t, where, w)
	}
	for host := range 4 {
		wantFound(t, fmt.Sprint(where, ", then host ", host), w, host)
	}
	return w
}

// wantCounted asks each host for the image: it shows the guest, and its counts are those of its tables. Of a world in which nothing is left of a crash.
func wantCounted(t *testing.T, where string, w impl.World) {
	t.Helper()
	for host := range 4 {
		m, code := impl.ReadImage(w.Disk, host)
		if code != impl.OK || !rightImage(m) || !alikeGuests(guestBy(m), w.Guest) {
			t.Errorf("%s: host %d reads %v (%d), not %v", where, host, m, code, w.Guest)
			return
		}
		wrong, code := impl.WrongRefs(m)
		wantClusters(t, where+": WrongRefs", wrong, code, nil)
		leaks, code := impl.Leaks(m)
		wantClusters(t, where+": Leaks", leaks, code, nil)
		if want := countsOf(m); !slices.Equal(m.Refs, want) {
			t.Errorf("%s: counted %v, not %v", where, m.Refs, want)
		}
	}
}

// countsOf are how many tables have each cluster.
func countsOf(m impl.Image) []int {
	counts := make([]int, 24)
	for _, table := range tablesIn(m) {
		for _, entry := range table {
			if entry >= 2 {
				counts[entry-2]++
			}
		}
	}
	return counts
}

// foundIn are the guests that may be found behind a world: the one that there is, or the one behind the request in whose midst a host crashed.
func foundIn(w impl.World) []impl.Guest {
	out := []impl.Guest{w.Guest}
	if w.Maybe != (impl.Req{}) {
		done, _ := guestDoneBy(w.Guest, w.Maybe)
		out = append(out, done)
	}
	return out
}

// wantFound has a host open when all seem dead: it may, and finds all that there is.
func wantFound(t *testing.T, where string, was impl.World, host int) {
	t.Helper()
	w, _, code := impl.WorldDo(was, ticksAct(60))
	wantOK(t, where+": ticks", code)
	if w.Hosts[host].State == impl.HoOpen {
		// It has fenced itself, and finds it out when it is asked.
		next, _, code := impl.WorldDo(w, renewAct(host))
		if w = next; code != impl.ErrFenced {
			t.Errorf("%s: it is not fenced: %d", where, code)
		}
	}
	w, _, code = impl.WorldDo(w, openAct(host))
	wantOK(t, where+": open", code)
	if w.Maybe != (impl.Req{}) || !w.Agree || !slices.ContainsFunc(foundIn(was), func(g impl.Guest) bool { return alikeGuests(g, w.Guest) }) {
		t.Errorf("%s: found %v, not one of %v; maybe %s, agree %v", where, w.Guest, foundIn(was), named(w.Maybe), w.Agree)
	}
	wantPromised(t, where, w)
	wantWriters(t, where, w, host)
	wantCounted(t, where, w)
	wantSeen(t, w, host)
}

// findLines have a host open when all seem dead, and ask it for all that it finds.
func findLines(host int) []string {
	lines := []string{"ticks 60", fmt.Sprint("renew ", host), fmt.Sprint("open ", host), "guest", "leader", fmt.Sprint("host ", host, " list")}
	for g := range 6 {
		lines = append(lines, fmt.Sprint("host ", host, " read ", g))
	}
	return lines
}

// wantFoundByLines is wantFound, by what is said alone. There must be room for the lines.
func wantFoundByLines(t *testing.T, where string, lines []string, host int) {
	t.Helper()
	was, ahead, code := impl.RunLines(lines)
	wantOK(t, where, code)
	_, said, code := impl.RunLines(slices.Concat(lines, findLines(host)))
	wantOK(t, where, code)
	if len(said) < len(ahead)+10 || !slices.Equal(said[:len(ahead)], ahead) {
		t.Errorf("%s: %q is no beginning of %q", where, ahead, said)
		return
	}
	said = said[len(ahead):]
	for _, g := range foundIn(was) {
		if slices.Equal(said[2:], foundSayings(g, host, was)) {
			return
		}
	}
	t.Errorf("%s: found %q, not one of %v", where, said, foundIn(was))
}

// foundSayings are what is said to findLines, behind its first two, if a guest is found.
func foundSayings(g impl.Guest, host int, was impl.World) []string {
	leader := fmt.Sprintf("leader %d version %d generation %d", host, leaderIn(was).Ver+1, deltaOn(was.Disk, host).Gen+1)
	out := append([]string{"ok"}, guestTextBy(g)...)
	out = append(out, "agree yes", leader, strings.Join(append([]string{fmt.Sprint("ok ", len(g.Values))}, shotNames(g)...), " "))
	for i := range 6 {
		if i < len(g.Values) {
			out = append(out, fmt.Sprint("ok ", g.Values[i]))
		} else {
			out = append(out, "range")
		}
	}
	return out
}

// follow goes by what was said alone: which guests there may be behind the lines. A request that was answered is done, one in whose midst a host crashed is done or not, and who opens settles it.
func follow(t *testing.T, lines []string) {
	t.Helper()
	may := []impl.Guest{guestWith(make([]int, 6))}
	before := 0
	for k, line := range lines {
		w, said, _ := impl.RunLines(lines[:k+1])
		said, before = said[before:], len(said)
		may = followed(may, w, line, said)
		if !slices.ContainsFunc(may, func(g impl.Guest) bool { return alikeGuests(g, w.Guest) }) {
			t.Fatalf("behind %q: %v is not one of %v", lines[:k+1], w.Guest, may)
		}
	}
}

// followed takes what was said to one line, and the world behind it.
func followed(may []impl.Guest, w impl.World, line string, said []string) []impl.Guest {
	words := wordsIn(line)
	if len(said) != 1 || strings.HasPrefix(said[0], "error") || said[0] == "full" {
		return may
	}
	var next []impl.Guest
	for _, g := range may {
		switch words[0] {
		case "open":
			// It has been seen which one it is.
			if alikeGuests(g, w.Guest) {
				return []impl.Guest{g}
			}
			continue
		case "host":
			q, _ := requestIn(strings.Join(words[2:], " "))
			g, _ = guestDoneBy(g, q)
		case "crash":
			q, _ := requestIn(strings.Join(words[4:], " "))
			done, _ := guestDoneBy(g, q)
			next = append(next, done)
		}
		next = append(next, g)
	}
	return next
}
