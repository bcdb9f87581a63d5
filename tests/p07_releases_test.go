package tests

import (
	"testing"

	"loop.example/g00456/impl"
)

// Promise 7, of leaders that let go, and of elections and releases that are refused.

// Each write is flushed ahead of the next one: room for one is room for all, whoever has the writes that wait.
func TestP7FullDisks(t *testing.T) {
	for host := range 4 {
		x := impl.Leader{Ver: 4, Owner: host, Gen: 3}
		for writer := range 4 {
			for count := 195; count <= 200; count++ {
				d := filledUp(diskOf(x), writer, count)
				wantLeader(t, d, x)
				if count < 200 {
					elected(t, d, host, 1, 5)
					released(t, d, x)
					continue
				}
				wantRefused(t, "full", d, host, host, 5, x, impl.ErrFull)
				wantRefused(t, "full, no owner", d, host, 4, 0, x, impl.ErrFull)
				wantRefused(t, "full, not right", d, host, host, 5, impl.Leader{}, impl.ErrFull)
				wantRefused(t, "full, stale", d, host, host, 5, impl.Leader{Ver: 9, Owner: -1}, impl.ErrFull)
				wantRefused(t, "full, another's", d, (host+1)%4, host, 5, x, impl.ErrFull)
				last := impl.Leader{Ver: 1000000, Owner: host, Gen: 3}
				wantRefused(t, "full, last version", filledUp(diskOf(last), writer, count), host, host, 5, last, impl.ErrFull)
			}
		}
	}
}

// wantRefused asks Elect and Release for a code with a disk and a leader that are zero.
func wantRefused(t *testing.T, where string, d impl.Disk, host, owner, gen int, x impl.Leader, want int) {
	t.Helper()
	out, y, code := impl.Elect(d, host, owner, gen)
	wantCode(t, "Elect: "+where, code, want, out)
	wantNoLeader(t, "Elect: "+where, y, code, want)
	out, y, code = impl.Release(d, host, x)
	wantCode(t, "Release: "+where, code, want, out)
	wantNoLeader(t, "Release: "+where, y, code, want)
}

func TestP7LettingGo(t *testing.T) {
	for owner := range 4 {
		for _, x := range []impl.Leader{{Ver: 1, Owner: owner, Gen: 1}, {Ver: 8, Owner: owner, Gen: 1000000}, {Ver: 999999, Owner: owner, Gen: 7}} {
			d := diskOf(x, impl.Block{Ver: x.Ver, Mbal: 9, Bal: 9, Inp: 1024 + 2})
			d.Sectors[5+owner] = deltaText(owner, 1, 1)
			d.Pending = []impl.Io{{Host: owner, At: 40, Data: "its own"}, {Host: (owner + 1) % 4, At: 41, Data: "another's"}}
			out, y := released(t, d, x)
			wantLeader(t, out, y)
			for host := range 4 {
				// Nobody has it to let go of: neither the one that did, nor others.
				wantHeld(t, "twice", out, host, x, y, impl.ErrStale)
				wantHeld(t, "of nobody", out, host, y, y, impl.ErrHeld)
				if x.Ver < 999999 {
					if _, z := elected(t, out, host, host, 5); z != (impl.Leader{Ver: x.Ver + 2, Owner: host, Gen: 5}) {
						t.Error("Elect", z)
					}
				}
			}
		}
	}
}

func TestP7NobodyElseLetsGo(t *testing.T) {
	x := impl.Leader{Ver: 8, Owner: 2, Gen: 5}
	d := diskOf(x)
	d.Pending = []impl.Io{{Host: 2, At: 40, Data: "its own"}, {Host: 1, At: 41, Data: "another's"}}
	for host := range 4 {
		for _, stale := range []impl.Leader{
			{Ver: 7, Owner: 2, Gen: 5}, {Ver: 9, Owner: 2, Gen: 5}, {Ver: 8, Owner: 2, Gen: 4}, {Ver: 8, Owner: 2, Gen: 6}, {Ver: 8, Owner: 1, Gen: 5}, {Ver: 8, Owner: host, Gen: 1},
			{Ver: 8, Owner: -1}, {Owner: -1}, {Ver: 1000000, Owner: host, Gen: 5}, {Ver: 1000000, Owner: -1},
		} {
			wantHeld(t, "stale", d, host, stale, x, impl.ErrStale)
		}
		if host != 2 {
			wantHeld(t, "another's", d, host, x, x, impl.ErrHeld)
		}
	}
	wantLeader(t, d, x)
}

func TestP7OwnersAndGenerationsThatAreNone(t *testing.T) {
	x := impl.Leader{Ver: 4, Owner: 1, Gen: 3}
	disks := []impl.Disk{emptyDisk(), diskOf(x), diskOf(impl.Leader{Ver: 1000000, Owner: -1}), diskOf(x, impl.Block{Ver: 5, Mbal: 1000000}), diskOf(x, impl.Block{Ver: 6})}
	for _, d := range disks {
		for host := range 4 {
			for _, n := range []int{-1, 4, 1023, 1024, 1 << 32, least, greatest} {
				wantElected(t, "no owner", d, host, n, 1, impl.Disk{}, impl.Leader{}, impl.ErrRange)
				wantElected(t, "no owner", d, host, n, n, impl.Disk{}, impl.Leader{}, impl.ErrRange)
			}
			for _, n := range []int{0, -1, 1000001, 1<<32 + 1, least, greatest} {
				wantElected(t, "no generation", d, host, 3, n, impl.Disk{}, impl.Leader{}, impl.ErrRange)
			}
		}
	}
}

func TestP7ReleasesOfWhatIsNotRight(t *testing.T) {
	x := impl.Leader{Ver: 4, Owner: 1, Gen: 3}
	for _, d := range []impl.Disk{emptyDisk(), diskOf(x), diskOf(impl.Leader{Ver: 1000000, Owner: 1, Gen: 1})} {
		for host := range 4 {
			for _, wrong := range wrongLeaders() {
				out, y, code := impl.Release(d, host, wrong)
				wantCode(t, "Release", code, impl.ErrBad, out)
				wantNoLeader(t, "Release", y, code, impl.ErrBad)
			}
		}
	}
}

func wantNoReading(t *testing.T, where string, d impl.Disk, host, want int) {
	t.Helper()
	x, code := impl.ReadLeader(d, host)
	wantNoLeader(t, "ReadLeader: "+where, x, code, want)
	for _, gen := range []int{1, 0, -1, 1000001, greatest} {
		if holds, code := impl.Holds(d, host, gen); holds || code != want {
			t.Errorf("Holds: %s: %v with code %d, not %d", where, holds, code, want)
		}
	}
}

func TestP7HostsThatAreNone(t *testing.T) {
	x := impl.Leader{Ver: 4, Owner: 1, Gen: 3}
	for _, host := range []int{-1, 4, 1023, least, greatest} {
		for _, d := range []impl.Disk{emptyDisk(), diskOf(x), diskOf(impl.Leader{Ver: 4, Owner: -1}), filledUp(diskOf(x), 1, 200), diskOf(impl.Leader{Ver: 1000000, Owner: 1, Gen: 3})} {
			wantNoReading(t, "no host", d, host, impl.ErrRange)
			wantRefused(t, "no host", d, host, 1, 3, x, impl.ErrRange)
			wantRefused(t, "no host, nor owner, not right", d, host, host, 0, impl.Leader{}, impl.ErrRange)
			wantRefused(t, "no host, nobody", d, host, -1, 0, impl.Leader{Ver: 4, Owner: -1}, impl.ErrRange)
		}
	}
}

func TestP7DisksThatAreNone(t *testing.T) {
	for _, w := range wrongDisks() {
		for _, host := range []int{0, 3, -1, 4, least, greatest} {
			wantNoReading(t, w.name, w.disk, host, impl.ErrBad)
			wantRefused(t, w.name, w.disk, host, 1, 3, impl.Leader{Ver: 4, Owner: 1, Gen: 3}, impl.ErrBad)
			wantRefused(t, w.name, w.disk, host, 4, 0, impl.Leader{}, impl.ErrBad)
		}
	}
}
