package tests

import (
	"math/rand"
	"strconv"
	"strings"
	"testing"

	"loop.example/g00456/impl"
)

// Promise 5: each beginning has the next generation, and a renewal the same.

// deltaText, deltaBy and rightDelta reckon as the document says, without the program.
func deltaText(host, gen, stamp int) string {
	return sealed(9, []int{host, gen, stamp})
}

func deltaBy(text string) (impl.Delta, bool) {
	kind, list, ok := opened(text)
	if !ok || kind != 9 || len(list) != 3 {
		return impl.Delta{}, false
	}
	x := impl.Delta{Host: list[0], Gen: list[1], Stamp: list[2]}
	return x, rightDelta(x)
}

func rightDelta(x impl.Delta) bool {
	return x.Host >= 0 && x.Host <= 3 && x.Gen >= 1 && x.Gen <= 1000000 && x.Stamp >= 0 && x.Stamp <= 10000000
}

// edgeDeltas have the least, a middle and the greatest of each number.
func edgeDeltas() []impl.Delta {
	var out []impl.Delta
	for _, host := range []int{0, 2, 3} {
		for _, gen := range []int{1, 2, 999999, 1000000} {
			for _, stamp := range []int{0, 50, 9999999, 10000000} {
				out = append(out, impl.Delta{Host: host, Gen: gen, Stamp: stamp})
			}
		}
	}
	return out
}

// wrongDeltas have one number or more out of its bounds.
func wrongDeltas() []impl.Delta {
	out := []impl.Delta{{}}
	for _, n := range []int{-1, 4, 256, 1 << 32, least, greatest} {
		out = append(out, impl.Delta{Host: n, Gen: 1})
	}
	for _, n := range []int{0, -1, 1000001, 1<<32 + 1, least, greatest} {
		out = append(out, impl.Delta{Host: 1, Gen: n, Stamp: 5})
	}
	for _, n := range []int{-1, 10000001, 1 << 32, least, greatest} {
		out = append(out, impl.Delta{Host: 3, Gen: 7, Stamp: n})
	}
	for _, n := range []int{-1, 10000001, least, greatest} {
		out = append(out, impl.Delta{Host: n, Gen: n, Stamp: n})
	}
	return out
}

func TestP5WhichAreRight(t *testing.T) {
	for _, x := range edgeDeltas() {
		if !impl.DeltaOK(x) {
			t.Error("it is right:", x)
		}
	}
	for _, x := range wrongDeltas() {
		if impl.DeltaOK(x) {
			t.Error("it is not right:", x)
		}
		text, code := impl.EncodeDelta(x)
		wantNoText(t, "EncodeDelta", text, code, impl.ErrBad)
	}
}

func TestP5TextByHand(t *testing.T) {
	// 10 + 2 * 4, bytes of 3, 258 and 5 from place 3 on: 3 * 4 + 4 + 5 + 6, 7 * 3 + 8 * 2 + 9 + 10, 11 * 6 + 12 + 13 + 14, in all 206.
	want := "\x09\x03\xce\x00\x03\x00\x00\x00\x02\x01\x00\x00\x05\x00\x00\x00"
	x := impl.Delta{Host: 3, Gen: 258, Stamp: 5}
	if text, code := impl.EncodeDelta(x); text != want || code != impl.OK {
		t.Errorf("EncodeDelta: %q %d", text, code)
	}
	if got, code := impl.DecodeDelta(want); got != x || code != impl.OK {
		t.Error("DecodeDelta", got, code)
	}
}

func TestP5TextsAreReadBack(t *testing.T) {
	for _, x := range edgeDeltas() {
		text, code := impl.EncodeDelta(x)
		if text != deltaText(x.Host, x.Gen, x.Stamp) || code != impl.OK {
			t.Errorf("EncodeDelta %v: %q %d", x, text, code)
		}
		if got, code := impl.DecodeDelta(text); got != x || code != impl.OK {
			t.Errorf("DecodeDelta %q: %v %d", text, got, code)
		}
	}
}

func wantNoDelta(t *testing.T, where string, x impl.Delta, got, want int) {
	t.Helper()
	if x != (impl.Delta{}) || got != want {
		t.Errorf("%s: %v with code %d, not %d", where, x, got, want)
	}
}

// noDeltaTexts are of at most 80 bytes, as a sector is.
func noDeltaTexts() []string {
	text := deltaText(1, 2, 3)
	out := []string{"", "delta", "\x09", text[:15], text[1:], text + "\x00", text + text, " " + text}
	for kind := range 12 {
		if kind != 9 {
			out = append(out, sealed(kind, []int{1, 2, 3}))
		}
	}
	for size := range 17 {
		if size != 3 {
			out = append(out, sealed(9, append([]int{1, 2, 3}, make([]int, 13)...)[:size]))
		}
	}
	for _, list := range [][]int{{4, 2, 3}, {mostNumber, 2, 3}, {1, 0, 3}, {1, 1000001, 3}, {1, mostNumber, 3}, {1, 2, 10000001}, {1, 2, mostNumber}, {0, 0, 0}, {1 << 31, 2, 3}} {
		out = append(out, sealed(9, list))
	}
	return out
}

func TestP5TextsThatAreNone(t *testing.T) {
	for _, text := range noDeltaTexts() {
		x, code := impl.DecodeDelta(text)
		wantNoDelta(t, "DecodeDelta "+strconv.Quote(text), x, code, impl.ErrForm)
	}
	right := deltaText(1, 2, 3)
	for _, c := range []struct{ size, want int }{
		{17, impl.ErrForm}, {81, impl.ErrForm}, {4097, impl.ErrForm}, {impl.MaxText - 1, impl.ErrForm}, {impl.MaxText, impl.ErrForm},
		{impl.MaxText + 1, impl.ErrLong}, {impl.MaxText + 16, impl.ErrLong}, {3 * impl.MaxText, impl.ErrLong},
	} {
		x, code := impl.DecodeDelta(right + strings.Repeat("\x00", c.size-16))
		wantNoDelta(t, "DecodeDelta of "+strconv.Itoa(c.size), x, code, c.want)
	}
}

// A byte that is changed by 251 is not seen by the sum; what comes of it may be another right generation.
func TestP5TextsWithAByteChanged(t *testing.T) {
	for _, text := range []string{deltaText(0, 1, 0), deltaText(3, 1000000, 10000000), deltaText(2, 255, 252)} {
		for at := range len(text) {
			for b := range 256 {
				changed := text[:at] + string([]byte{byte(b)}) + text[at+1:]
				want, ok := deltaBy(changed)
				got, code := impl.DecodeDelta(changed)
				if !ok {
					wantNoDelta(t, "DecodeDelta "+strconv.Quote(changed), got, code, impl.ErrForm)
				} else if got != want || code != impl.OK || at < 4 && byte(b) != text[at] {
					t.Errorf("DecodeDelta %q: %v %d", changed, got, code)
				}
			}
		}
	}
}

// begun and renewed are the two calls' answers that must be OK, with a disk on which nothing of the host's is unsure.
func begun(t *testing.T, d impl.Disk, host, now int) (impl.Disk, impl.Delta) {
	t.Helper()
	out, x, code := impl.TakeDelta(d, host, now)
	wantWritten(t, "TakeDelta", d, out, x, code)
	return out, x
}

func renewed(t *testing.T, d impl.Disk, x impl.Delta, now int) (impl.Disk, impl.Delta) {
	t.Helper()
	out, y, code := impl.RenewDelta(d, x, now)
	wantWritten(t, "RenewDelta", d, out, y, code)
	if want := (impl.Delta{Host: x.Host, Gen: x.Gen, Stamp: now}); y != want {
		t.Fatal("RenewDelta", x, now, y)
	}
	return out, y
}

// wantWritten holds the disk against d with all of the host's writes sure, and the generation's text behind them.
func wantWritten(t *testing.T, where string, d, out impl.Disk, x impl.Delta, code int) {
	t.Helper()
	wantOK(t, where, code)
	want := putBy(d, x.Host, 5+x.Host, deltaText(x.Host, x.Gen, x.Stamp))
	if !sameDisk(out, want) {
		t.Fatal(where, "wrote something else:", x, out.Sectors[5:9], out.Pending)
	}
}

func wantDelta(t *testing.T, d impl.Disk, host, of int, want impl.Delta) {
	t.Helper()
	if got, code := impl.ReadDelta(d, host, of); got != want || code != impl.OK {
		t.Errorf("host %d reads %v of %d with code %d, not %v", host, got, of, code, want)
	}
}

func TestP5EachBeginningHasTheNextGeneration(t *testing.T) {
	for host := range 4 {
		d, x := emptyDisk(), impl.Delta{}
		for gen := 1; gen <= 20; gen++ {
			// A host that begins anew may have a clock that stands behind.
			now := 1000 - 10*gen
			d, x = begun(t, d, host, now)
			if want := (impl.Delta{Host: host, Gen: gen, Stamp: now}); x != want {
				t.Fatal("TakeDelta", host, gen, x)
			}
			for _, later := range []int{now, now, now + 1, now + 7, 10000000}[:gen%6] {
				d, x = renewed(t, d, x, later)
			}
			for reader := range 4 {
				wantDelta(t, d, reader, host, x)
				other, code := impl.ReadDelta(d, reader, (host+1)%4)
				wantNoDelta(t, "ReadDelta", other, code, impl.ErrNone)
			}
		}
	}
}

func TestP5HostsBeginSideBySide(t *testing.T) {
	for seed := range int64(40) {
		r, d, own, time := rand.New(rand.NewSource(seed)), emptyDisk(), [4]impl.Delta{}, 0
		for range 200 {
			host := r.Intn(4)
			time += r.Intn(20)
			switch act := r.Intn(10); {
			case act < 2:
				was := own[host]
				d, own[host] = begun(t, d, host, time)
				if want := (impl.Delta{Host: host, Gen: was.Gen + 1, Stamp: time}); own[host] != want {
					t.Fatal("TakeDelta", was, own[host])
				}
			case act < 6 && own[host].Gen > 0:
				d, own[host] = renewed(t, d, own[host], time)
			case act < 9 && len(d.Pending) < 100:
				d = must(t)(impl.WriteSector(d, host, 9+r.Intn(55), "other"))
			default:
				d = must(t)(impl.LoseHost(d, host, r.Intn(3)))
			}
			for of, x := range own {
				if x.Gen > 0 {
					wantDelta(t, d, r.Intn(4), of, x)
				}
			}
		}
	}
}

func TestP5BeginsBehindWhatItReadsItself(t *testing.T) {
	d := emptyDisk()
	d.Sectors[6] = deltaText(1, 4, 10)
	d.Pending = []impl.Io{
		{Host: 1, At: 6, Data: deltaText(1, 7, 20)},
		{Host: 2, At: 6, Data: deltaText(1, 30, 20)},
		{Host: 1, At: 6, Data: deltaText(1, 8, 25)},
		{Host: 1, At: 40, Data: "its own"},
		{Host: 0, At: 6, Data: "none"},
	}
	wantDelta(t, d, 1, 1, impl.Delta{Host: 1, Gen: 8, Stamp: 25})
	wantDelta(t, d, 2, 1, impl.Delta{Host: 1, Gen: 30, Stamp: 20})
	wantDelta(t, d, 3, 1, impl.Delta{Host: 1, Gen: 4, Stamp: 10})
	none, code := impl.ReadDelta(d, 0, 1)
	wantNoDelta(t, "ReadDelta", none, code, impl.ErrNone)
	for _, stale := range []impl.Delta{{Host: 1, Gen: 4, Stamp: 10}, {Host: 1, Gen: 7, Stamp: 20}, {Host: 1, Gen: 30, Stamp: 20}} {
		wantSame(t, d, stale, 50, impl.ErrStale)
	}
	_, x := renewed(t, d, impl.Delta{Host: 1, Gen: 8, Stamp: 25}, 26)
	out, y := begun(t, d, 1, 3)
	if x.Gen != 8 || y != (impl.Delta{Host: 1, Gen: 9, Stamp: 3}) {
		t.Error(x, y)
	}
	for _, reader := range []int{1, 3} {
		wantDelta(t, out, reader, 1, y)
	}
	wantDelta(t, out, 2, 1, impl.Delta{Host: 1, Gen: 30, Stamp: 20})
}

// wantSame holds a renewal that is refused against what it was given.
func wantSame(t *testing.T, d impl.Disk, x impl.Delta, now, want int) {
	t.Helper()
	out, y, code := impl.RenewDelta(d, x, now)
	if code != want || y != x || !sameDisk(out, d) {
		t.Errorf("RenewDelta %v at %d: %v with code %d, not %d (%d sectors)", x, now, y, code, want, len(out.Sectors))
	}
}

// A host whose sector has something else begins with 1, as one that never began, and has nothing to renew.
func TestP5BeginsAnewWhereThereIsNoRightOne(t *testing.T) {
	for host := range 4 {
		others := noDeltaTexts()
		for other := range 4 {
			if other != host {
				others = append(others, deltaText(other, 5, 6), deltaText(other, 1000000, 10000000))
			}
		}
		for _, text := range others {
			sure, unsure := emptyDisk(), emptyDisk()
			sure.Sectors[5+host] = text
			unsure.Sectors[5+host] = deltaText(host, 5, 6)
			unsure.Pending = []impl.Io{{Host: host, At: 5 + host, Data: text}}
			for _, d := range []impl.Disk{sure, unsure} {
				got, code := impl.ReadDelta(d, host, host)
				wantNoDelta(t, "ReadDelta", got, code, impl.ErrNone)
				wantSame(t, d, impl.Delta{Host: host, Gen: 5, Stamp: 6}, 6, impl.ErrStale)
				if _, x := begun(t, d, host, 7); x != (impl.Delta{Host: host, Gen: 1, Stamp: 7}) {
					t.Error("TakeDelta", host, x)
				}
			}
		}
	}
}

func TestP5TheLastGeneration(t *testing.T) {
	for host := range 4 {
		d := emptyDisk()
		d.Sectors[5+host] = deltaText(host, 999999, 10000000)
		d.Pending = []impl.Io{{Host: host, At: 20, Data: "unsure"}, {Host: 3 - host, At: 21, Data: "another's"}}
		last, x := begun(t, d, host, 0)
		if x != (impl.Delta{Host: host, Gen: 1000000}) {
			t.Error("TakeDelta", x)
		}
		last.Pending = append(last.Pending, d.Pending[0])
		for _, now := range []int{0, 5, 10000000} {
			out, y, code := impl.TakeDelta(last, host, now)
			if code != impl.ErrMany || !sameDisk(out, last) {
				t.Error("TakeDelta", code, len(out.Sectors))
			}
			wantNoDelta(t, "TakeDelta", y, code, impl.ErrMany)
		}
		last, x = renewed(t, last, x, 10000000)
		wantDelta(t, last, 3-host, host, x)
		// Others begin as ever.
		if _, y := begun(t, last, 3-host, 1); y.Gen != 1 {
			t.Error("TakeDelta", y)
		}
	}
}

func TestP5RenewalsAtTheirHour(t *testing.T) {
	for _, stamp := range []int{0, 1, 50, 9999999, 10000000} {
		d := filledUp(emptyDisk(), 2, 3)
		d, x := begun(t, d, 2, stamp)
		d.Pending = []impl.Io{{Host: 2, At: 40, Data: "unsure"}, {Host: 1, At: 41, Data: "another's"}}
		renewed(t, d, x, stamp)
		if stamp < 10000000 {
			renewed(t, d, x, stamp+1)
		}
		renewed(t, d, x, 10000000)
		if stamp > 0 {
			wantSame(t, d, x, stamp-1, impl.ErrOrder)
			wantSame(t, d, x, 0, impl.ErrOrder)
		}
	}
}

func TestP5RenewalsOfAnotherOne(t *testing.T) {
	d, elder := begun(t, emptyDisk(), 2, 10)
	d, first := renewed(t, d, elder, 15)
	d, second := begun(t, d, 2, 20)
	for _, x := range []impl.Delta{
		elder, first,
		{Host: 2, Gen: 2, Stamp: 19}, {Host: 2, Gen: 2, Stamp: 21}, {Host: 2, Gen: 1, Stamp: 20}, {Host: 2, Gen: 3, Stamp: 20},
		{Host: 0, Gen: 2, Stamp: 20}, {Host: 3, Gen: 2, Stamp: 20}, {Host: 1, Gen: 1}, {Host: 2, Gen: 1000000, Stamp: 10000000},
	} {
		// Stale is told ahead of an hour that is too early.
		for _, now := range []int{0, 20, 21, 10000000} {
			wantSame(t, d, x, now, impl.ErrStale)
		}
	}
	renewed(t, d, second, 20)
}

// A write is put behind those that wait, and only then flushed: it needs room, whoever has the writes.
func TestP5FullDisks(t *testing.T) {
	for _, host := range []int{0, 3} {
		d, x := begun(t, emptyDisk(), host, 10)
		for writer := range 4 {
			room, full := filledUp(d, writer, 199), filledUp(d, writer, 200)
			renewed(t, room, x, 10)
			if _, y := begun(t, room, host, 10); y.Gen != 2 {
				t.Error("TakeDelta", y)
			}
			wantDelta(t, room, writer, host, x)
			wantDelta(t, full, writer, host, x)
			for _, now := range []int{0, 10, 10000000} {
				wantNothing(t, full, host, x, now, impl.ErrFull)
				wantNothing(t, full, host, impl.Delta{Host: host, Gen: 9, Stamp: 9}, now, impl.ErrFull)
			}
			full.Sectors[5+host] = deltaText(host, 1000000, 5)
			wantNothing(t, full, host, x, 5, impl.ErrFull)
		}
	}
}

// wantNothing asks both calls for a code with a disk and a generation that are zero.
func wantNothing(t *testing.T, d impl.Disk, host int, x impl.Delta, now, want int) {
	t.Helper()
	where := " of " + strconv.Itoa(host) + " at " + strconv.Itoa(now)
	out, y, code := impl.TakeDelta(d, host, now)
	wantCode(t, "TakeDelta"+where, code, want, out)
	wantNoDelta(t, "TakeDelta"+where, y, code, want)
	out, y, code = impl.RenewDelta(d, x, now)
	wantCode(t, "RenewDelta"+where, code, want, out)
	wantNoDelta(t, "RenewDelta"+where, y, code, want)
}

func TestP5HoursThatAreNone(t *testing.T) {
	d, x := begun(t, emptyDisk(), 3, 10000000)
	d.Sectors[5] = deltaText(0, 1000000, 0)
	for _, now := range []int{-1, 10000001, least, greatest} {
		for _, disk := range []impl.Disk{d, filledUp(d, 3, 200)} {
			wantNothing(t, disk, 3, x, now, impl.ErrRange)
			wantNothing(t, disk, 0, impl.Delta{Host: 0, Gen: 4, Stamp: 4}, now, impl.ErrRange)
		}
	}
}

func TestP5HostsThatAreNone(t *testing.T) {
	full := filledUp(deltaDisk(), 1, 200)
	for _, host := range []int{-1, 4, least, greatest} {
		for _, d := range []impl.Disk{emptyDisk(), deltaDisk(), full} {
			for _, now := range []int{0, 10000000, -1, 10000001, greatest} {
				out, x, code := impl.TakeDelta(d, host, now)
				wantCode(t, "TakeDelta", code, impl.ErrRange, out)
				wantNoDelta(t, "TakeDelta", x, code, impl.ErrRange)
			}
			for _, other := range anyHosts() {
				x, code := impl.ReadDelta(d, host, other)
				wantNoDelta(t, "ReadDelta", x, code, impl.ErrRange)
				x, code = impl.ReadDelta(d, other, host)
				wantNoDelta(t, "ReadDelta", x, code, impl.ErrRange)
			}
		}
	}
}

func TestP5DisksThatAreNone(t *testing.T) {
	for _, w := range wrongDisks() {
		for _, host := range []int{0, 3, -1, 4, least, greatest} {
			for _, now := range []int{0, 10000000, -1, 10000001} {
				wantNothing(t, w.disk, host, impl.Delta{Host: 1, Gen: 1}, now, impl.ErrBad)
			}
			for _, of := range anyHosts() {
				x, code := impl.ReadDelta(w.disk, host, of)
				wantNoDelta(t, w.name, x, code, impl.ErrBad)
			}
		}
	}
}

// ErrBad of the generation is ahead of all else.
func TestP5RenewalsOfWhatIsNotRight(t *testing.T) {
	disks := append(wrongDisks(), namedDisk{"right", deltaDisk()}, namedDisk{"full", filledUp(deltaDisk(), 1, 200)})
	for _, w := range disks {
		for _, x := range wrongDeltas() {
			for _, now := range []int{0, 10000000, -1, greatest} {
				out, y, code := impl.RenewDelta(w.disk, x, now)
				wantCode(t, w.name, code, impl.ErrBad, out)
				wantNoDelta(t, w.name, y, code, impl.ErrBad)
			}
		}
	}
}
