package tests

import (
	"slices"
	"strings"
	"testing"

	"loop.example/g00456/impl"
)

// Promise 1: no call changes an argument, panics, or hangs on what was called ahead; alike arguments have alike answers.

func TestP1ArgumentsStayAsTheyAre(t *testing.T) {
	everyCall(t, func(where string, d impl.Disk, c diskCall) {
		given := roomy(d)
		c.run(given)
		if !untouched(given, d) {
			t.Fatal("the argument was changed, or what stands behind its end:", where)
		}
	})
}

func TestP1AnswersShareNoMemoryWithArguments(t *testing.T) {
	everyCall(t, func(where string, d impl.Disk, c diskCall) {
		given := roomy(d)
		got := c.run(given)
		want := cloneAnswer(got)
		scribbleAnswer(got)
		if !untouched(given, d) {
			t.Fatal("writing into the answer changed the argument:", where)
		}
		got = c.run(given)
		scribble(given)
		if !sameAnswer(got, want) {
			t.Fatal("writing into the argument changed the answer:", where)
		}
	})
}

func TestP1AnswersShareNoMemoryWithEachOther(t *testing.T) {
	a, b := impl.NewDisk(), impl.NewDisk()
	scribble(a)
	if !sameDisk(b, emptyDisk()) || !sameDisk(impl.NewDisk(), emptyDisk()) {
		t.Error("NewDisk's answers share memory")
	}
	everyCall(t, func(where string, d impl.Disk, c diskCall) {
		first, second := c.run(d), c.run(d)
		want := cloneAnswer(second)
		scribbleAnswer(first)
		if !sameAnswer(second, want) {
			t.Fatal("two answers share memory:", where)
		}
	})
}

func TestP1AlikeArgumentsHaveAlikeAnswers(t *testing.T) {
	full, deltas, leaders, journals, images := fullDisk(), deltaDisk(), leaderDisk(), journalDisk(), imageDisk()
	busy := func() {
		impl.Flush(full, 0)
		impl.LoseHost(full, 1, 3)
		impl.WriteSector(full, 9, 9, "")
		impl.CodeOf("broken")
		impl.NameOK("x")
		impl.TakeDelta(deltas, 1, 7)
		impl.RenewDelta(deltas, impl.Delta{Host: 1, Gen: 3, Stamp: 40}, 41)
		impl.Elect(leaders, 3, 1, 7)
		impl.Release(leaders, 2, impl.Leader{Ver: 6, Owner: 2, Gen: 5})
		impl.JournalOf(journals, 3, 1)
		plan, _ := impl.ReplayPlan(journals, 3, 0)
		impl.MovesDo(journals, 3, plan)
		impl.ReadImage(images, 2)
		impl.Format(images, 3, 4)
	}
	everyCall(t, func(where string, d impl.Disk, c diskCall) {
		first := c.run(roomy(d))
		busy()
		if second := c.run(cloneDisk(d)); !sameAnswer(first, second) {
			t.Fatal("another answer to alike arguments:", where)
		}
	})
}

func TestP1NilAndEmptyAreAlike(t *testing.T) {
	empty := emptyDisk()
	empty.Pending = []impl.Io{}
	for _, c := range allCalls() {
		if !sameAnswer(c.run(emptyDisk()), c.run(empty)) {
			t.Error("nil and empty lists are told apart:", c.name)
		}
		if !sameAnswer(c.run(impl.Disk{}), c.run(impl.Disk{Sectors: []string{}, Pending: []impl.Io{}})) {
			t.Error("nil and empty sectors are told apart:", c.name)
		}
	}
}

// Where the document says 'as it was' the disk is what was given; with every other code it is zero, and so are texts, numbers and lists.
func TestP1WithACodeAllElseIsZero(t *testing.T) {
	everyCall(t, func(where string, d impl.Disk, c diskCall) {
		got := c.run(d)
		if got.code == impl.OK {
			return
		}
		if got.text != "" || got.number != 0 || len(got.updates) != 0 || len(got.moves) != 0 || !sameImage(got.image, impl.Image{}) {
			t.Fatal("not zero with a code:", where, got.code)
		}
		same := slices.Contains(asItWas[c.name], got.code)
		if same && !sameDisk(got.disk, d) {
			t.Fatal("the disk is not as it was:", where, got.code)
		}
		far := slices.Contains(asFarAsItCame[c.name], got.code)
		if !same && !far && c.name != "WriteSector" && !sameDisk(got.disk, impl.Disk{}) {
			t.Fatal("the disk is not zero with a code:", where, got.code)
		}
		// RenewDelta is given a generation, too, and answers it as it was.
		if !(same && c.name == "RenewDelta") && got.delta != (impl.Delta{}) {
			t.Fatal("the generation is not zero with a code:", where, got.code)
		}
		// Who leads is told wherever a disk is.
		if !same && !far && got.leader != (impl.Leader{}) {
			t.Fatal("the leader is not zero with a code:", where, got.code)
		}
	})
}

func TestP1ErrLongIsAheadOfAllOtherCodes(t *testing.T) {
	most, beyond := strings.Repeat("d", impl.MaxText), strings.Repeat("d", impl.MaxText+1)
	for _, c := range []struct {
		name     string
		disk     impl.Disk
		host, at int
		data     string
		want     int
	}{
		{"alone", mixedDisk(), 0, 0, beyond, impl.ErrLong},
		{"much longer", mixedDisk(), 0, 0, strings.Repeat("d", 3*impl.MaxText), impl.ErrLong},
		{"full disk", fullDisk(), 0, 0, beyond, impl.ErrLong},
		{"no sector", mixedDisk(), 0, 64, beyond, impl.ErrLong},
		{"no host", mixedDisk(), 4, 64, beyond, impl.ErrLong},
		{"no disk", impl.Disk{}, 4, 64, beyond, impl.ErrLong},
		{"just MaxText, no disk", impl.Disk{}, 4, 64, most, impl.ErrBad},
		{"just MaxText, no host", mixedDisk(), 4, 64, most, impl.ErrRange},
		{"just MaxText, no sector", mixedDisk(), 0, 64, most, impl.ErrPlace},
	} {
		if d, code := impl.WriteSector(c.disk, c.host, c.at, c.data); code != c.want || !sameDisk(d, impl.Disk{}) {
			t.Error(c.name, code, len(d.Sectors))
		}
	}
	if d, code := impl.WriteSector(mixedDisk(), 0, 0, most); code != impl.ErrRange || !sameDisk(d, mixedDisk()) {
		t.Error("just MaxText", code, len(d.Sectors))
	}
}

func TestP1Names(t *testing.T) {
	right := []string{"a", "z", "A", "Z", "_", "a0", "a9", "_0", "__", "disk_1", "aZ_09", strings.Repeat("n", 40), "_" + strings.Repeat("9", 39)}
	for _, name := range right {
		if !impl.NameOK(name) {
			t.Errorf("%q is a name", name)
		}
	}
	wrong := []string{"", "0", "9a", " ", " a", "a ", "a b", "a-b", "a.b", "a\n", "\x00", "a\x00", "a\xff", "é", "aé", "`", "{", "@", "[", "a/", "a:", "a`", "a{", "a@", "a[", "^", "a^",
		strings.Repeat("n", 41), strings.Repeat("n", 39) + "-", strings.Repeat("n", impl.MaxText), strings.Repeat("n", impl.MaxText+1)}
	for _, name := range wrong {
		if impl.NameOK(name) {
			t.Errorf("%.50q is no name", name)
		}
	}
	for b := range 256 {
		letter := strings.IndexByte("abcdefghijklmnopqrstuvwxyzABCDEFGHIJKLMNOPQRSTUVWXYZ_", byte(b)) >= 0
		digit := strings.IndexByte("0123456789", byte(b)) >= 0
		one := string([]byte{byte(b)})
		if impl.NameOK(one) != letter || impl.NameOK("a"+one) != (letter || digit) {
			t.Errorf("byte %d", b)
		}
	}
}

type namedCode struct {
	number, code int
	word         string
}

func documentCodes() []namedCode {
	return []namedCode{
		{0, impl.OK, "ok"}, {1, impl.ErrBad, "bad"}, {2, impl.ErrLong, "long"}, {3, impl.ErrForm, "form"},
		{4, impl.ErrRange, "range"}, {5, impl.ErrNone, "none"}, {6, impl.ErrMany, "many"}, {7, impl.ErrFull, "full"},
		{8, impl.ErrTwice, "twice"}, {9, impl.ErrHeld, "held"}, {10, impl.ErrFenced, "fenced"}, {11, impl.ErrAlive, "alive"},
		{12, impl.ErrName, "name"}, {13, impl.ErrStale, "stale"}, {14, impl.ErrPlace, "place"}, {15, impl.ErrClosed, "closed"},
		{16, impl.ErrOpen, "open"}, {17, impl.ErrOrder, "order"}, {18, impl.ErrBroken, "broken"}, {19, impl.ErrAbort, "abort"},
	}
}

func TestP1Codes(t *testing.T) {
	for _, c := range documentCodes() {
		if c.code != c.number || impl.CodeWord(c.number) != c.word || impl.CodeOf(c.word) != c.number {
			t.Error(c.number, c.code, impl.CodeWord(c.number), impl.CodeOf(c.word))
		}
	}
	for _, code := range []int{-1, 20, 21, 256, 1 << 32, least, greatest} {
		if w := impl.CodeWord(code); w != "" {
			t.Error("CodeWord", code, w)
		}
	}
	for _, word := range []string{"", "OK", "Ok", "ok ", " ok", "okk", "o", "abor", "abort\x00", "0", "ErrBad", "nothing", strings.Repeat("o", impl.MaxText), strings.Repeat("ok", impl.MaxText), "ok" + strings.Repeat(" ", impl.MaxText)} {
		if code := impl.CodeOf(word); code != -1 {
			t.Errorf("CodeOf %.20q %d", word, code)
		}
	}
}

func TestP1Constants(t *testing.T) {
	for _, c := range []struct {
		name      string
		got, want int
	}{
		{"MaxText", impl.MaxText, 65536}, {"MaxList", impl.MaxList, 4096}, {"MaxName", impl.MaxName, 40},
		{"DiskSize", impl.DiskSize, 64}, {"SectorSize", impl.SectorSize, 80}, {"Hosts", impl.Hosts, 4},
		{"MaxPending", impl.MaxPending, 200}, {"MaxInt", impl.MaxInt, 2147483648},
		{"LeaderAt", impl.LeaderAt, 0}, {"BlockAt", impl.BlockAt, 1}, {"DeltaAt", impl.DeltaAt, 5},
		{"SuperAt", impl.SuperAt, 9}, {"RefsAt", impl.RefsAt, 10}, {"MapAt", impl.MapAt, 11},
		{"DataAt", impl.DataAt, 15}, {"SlotAt", impl.SlotAt, 39},
	} {
		if c.got != c.want {
			t.Error(c.name, c.got)
		}
	}
}
