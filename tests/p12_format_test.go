package tests

import (
	"slices"
	"strconv"
	"testing"

	"loop.example/g00456/impl"
)

// Promise 12, of formatted disks; p12_reckoning_test.go says what it is held against.

// formatBy makes the host's writes sure, and a new image's three behind them.
func formatBy(d impl.Disk, host, size int) impl.Disk {
	d = putBy(d, host, 9, sealed(1, []int{0}))
	d = putBy(d, host, 10, sealed(2, []int{0, 0, 0, 0}))
	return putBy(d, host, 11, sealed(3, make([]int, size)))
}

func wantFormatted(t *testing.T, where string, d impl.Disk, host, size int) impl.Disk {
	t.Helper()
	got, code := impl.Format(d, host, size)
	if !sameDisk(got, formatBy(d, host, size)) || code != impl.OK {
		t.Errorf("%s: Format %d by %d: code %d, %d sectors, %d writes", where, size, host, code, len(got.Sectors), len(got.Pending))
	}
	return got
}

func wantNotFormatted(t *testing.T, where string, d impl.Disk, host, size int, want impl.Disk, wantCode int) {
	t.Helper()
	got, code := impl.Format(d, host, size)
	if !sameDisk(got, want) || code != wantCode {
		t.Errorf("%s: Format %d by %d: code %d, not %d, %d sectors, %d writes", where, size, host, code, wantCode, len(got.Sectors), len(got.Pending))
	}
}

func TestP12FormattedDisksAreNewImages(t *testing.T) {
	for size := range 13 {
		want, code := impl.NewImage(size)
		wantOK(t, "NewImage", code)
		for host := range 4 {
			for _, d := range []impl.Disk{impl.NewDisk(), rubbishDisk(), diskOfImage(sharing()), diskOfImage(usedUp()), diskOfImage(imageOf(nil, nil, nil, nil))} {
				got := wantFormatted(t, "sure", d, host, size)
				wantImageOn(t, "formatted", got, want)
				if len(got.Pending) != 0 {
					t.Error("something is not sure:", got.Pending)
				}
				again := wantFormatted(t, "formatted again", got, (host+1)%4, size)
				if !sameDisk(again, got) {
					t.Error("formatted again it is another one:", size, host)
				}
			}
		}
	}
}

// All but three sectors are as they were: what is stale is not cleared, nor what other chapters keep there.
func TestP12FormattedDisksKeepOtherSectors(t *testing.T) {
	for _, named := range rightDisks() {
		d := cloneDisk(named.disk)
		d.Pending = nil
		for host := range 4 {
			got, code := impl.Format(d, host, 5)
			wantOK(t, named.name, code)
			for at, text := range got.Sectors {
				if at != 9 && at != 10 && at != 11 && text != d.Sectors[at] {
					t.Error(named.name, "sector", at, "is changed")
				}
			}
		}
	}
}

// The host's own writes are made sure ahead of its new image; other hosts' wait on.
func TestP12FormattedDisksWithWritesThatWait(t *testing.T) {
	for own := range 4 {
		d := diskOfImage(sharing())
		d.Pending = []impl.Io{
			{Host: own, At: 9, Data: "its own"}, {Host: own, At: 10, Data: ""}, {Host: own, At: 11, Data: sealed(3, []int{0, 0})}, {Host: own, At: 40, Data: "elsewhere"},
			{Host: (own + 1) % 4, At: 9, Data: "another's"}, {Host: (own + 2) % 4, At: 41, Data: "another's, elsewhere"}, {Host: own, At: 12, Data: "stale"},
		}
		for size := range 13 {
			got := wantFormatted(t, "with writes that wait", d, own, size)
			if len(got.Pending) != 2 || got.Sectors[40] != "elsewhere" || got.Sectors[12] != "stale" {
				t.Error("what was written ahead is not sure:", got.Pending)
			}
			for host := range 4 {
				if wantReading(t, "with writes that wait", got, host) != (host != (own+1)%4) {
					t.Error("who reads it:", host, own)
				}
			}
		}
	}
}

func TestP12FormattedDisksOfAllSorts(t *testing.T) {
	for _, named := range rightDisks() {
		for host := range 4 {
			for _, size := range []int{0, 1, 7, 12} {
				if len(named.disk.Pending) > 197 {
					wantNotFormatted(t, named.name, named.disk, host, size, named.disk, impl.ErrFull)
					continue
				}
				got := wantFormatted(t, named.name, named.disk, host, size)
				m, code := impl.ReadImage(got, host)
				wantImage(t, named.name, m, code, imageOf(make([]int, size)), impl.OK)
			}
		}
	}
}

// Room is asked for ahead of the first write, whoever has the writes that wait.
func TestP12FormattedDisksWithLittleRoom(t *testing.T) {
	for writer := range 4 {
		for host := range 4 {
			for count := 190; count <= 200; count++ {
				for _, base := range []impl.Disk{emptyDisk(), diskOfImage(sharing())} {
					d := filledUp(base, writer, count)
					if count <= 197 {
						wantFormatted(t, "room for three", d, host, 3)
					} else {
						wantNotFormatted(t, "room for "+strconv.Itoa(200-count), d, host, 3, d, impl.ErrFull)
					}
				}
			}
		}
	}
}

// Several faults at once: the disk, the host, the size, the room.
func TestP12FormatsThatAreNone(t *testing.T) {
	noHosts := []int{-1, 4, 5, 1 << 32, least, greatest}
	for _, w := range wrongDisks() {
		for _, host := range append(noHosts, 0, 3) {
			for _, size := range append(noSizes(), 0, 12) {
				wantNotFormatted(t, w.name, w.disk, host, size, impl.Disk{}, impl.ErrBad)
			}
		}
	}
	for _, d := range []impl.Disk{emptyDisk(), mixedDisk(), diskOfImage(sharing()), filledUp(emptyDisk(), 1, 198), fullDisk()} {
		for _, size := range append(noSizes(), 0, 12) {
			for _, host := range noHosts {
				wantNotFormatted(t, "no host", d, host, size, impl.Disk{}, impl.ErrRange)
			}
		}
		for _, size := range append(noSizes(), -1, 13) {
			for host := range 4 {
				wantNotFormatted(t, "no size", d, host, size, impl.Disk{}, impl.ErrRange)
			}
		}
	}
	if sizes := noSizes(); !slices.Contains(sizes, -1) || !slices.Contains(sizes, 13) {
		t.Error("sizes next to the bounds are not among", sizes)
	}
}

// From a formatted disk on, requests one by one, each journalled by another host, are read back.
func TestP12FormattedDisksAreWorkedOn(t *testing.T) {
	d := wantFormatted(t, "new", impl.NewDisk(), 2, 6)
	m := imageOf(make([]int, 6))
	for step, run := range slices.Concat(
		allWritten(6, 4), []func(impl.Image) (impl.Image, int){func(m impl.Image) (impl.Image, int) { return impl.SnapCreate(m, "one") }},
		allWritten(6, mostNumber), allZeroed(3), []func(impl.Image) (impl.Image, int){resizedTo(2), resizedTo(12)}, allWritten(12, 0),
		[]func(impl.Image) (impl.Image, int){func(m impl.Image) (impl.Image, int) { return impl.SnapRevert(m, "one") }, func(m impl.Image) (impl.Image, int) { return impl.SnapDelete(m, "one") }, resizedTo(0)},
	) {
		next, code := run(m)
		wantOK(t, "request", code)
		list := wantRequested(t, "request", d, m, next, 4)
		d = must(t)(impl.MovesDo(d, step%4, planned(t, step%4, step, list)))
		wantImageOn(t, "request "+strconv.Itoa(step), d, next)
		m = next
	}
	d = wantFormatted(t, "formatted anew", d, 1, 12)
	wantImageOn(t, "formatted anew", d, imageOf(make([]int, 12)))
}
