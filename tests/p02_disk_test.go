package tests

import (
	"math/rand"
	"slices"
	"strconv"
	"strings"
	"testing"

	"loop.example/g00456/impl"
)

// Promise 2: a host reads what it wrote, others what is sure; flushed it is sure; of a lost host's writes the first ones survive.

// must takes a disk that a call answered with OK.
func must(t *testing.T) func(d impl.Disk, code int) impl.Disk {
	return func(d impl.Disk, code int) impl.Disk {
		t.Helper()
		if code != impl.OK || !impl.DiskOK(d) {
			t.Fatal("a call failed:", code)
		}
		return d
	}
}

func wantRead(t *testing.T, d impl.Disk, host, at int, want string) {
	t.Helper()
	if got, code := impl.ReadSector(d, host, at); got != want || code != impl.OK {
		t.Errorf("host %d reads %q at %d with %d, not %q", host, got, at, code, want)
	}
}

func wantPending(t *testing.T, d impl.Disk, want ...int) {
	t.Helper()
	for host, n := range want {
		if got, code := impl.PendingOf(d, host); got != n || code != impl.OK {
			t.Errorf("host %d has %d writes with %d, not %d", host, got, code, n)
		}
	}
}

func TestP2DiskOK(t *testing.T) {
	for _, d := range rightDisks() {
		if !impl.DiskOK(d.disk) {
			t.Error("it is right:", d.name)
		}
	}
	for _, d := range wrongDisks() {
		if impl.DiskOK(d.disk) {
			t.Error("it is not right:", d.name)
		}
	}
}

func TestP2NewDiskIsEmpty(t *testing.T) {
	d := impl.NewDisk()
	if !impl.DiskOK(d) || !sameDisk(d, emptyDisk()) {
		t.Error("NewDisk", len(d.Sectors), len(d.Pending))
	}
	wantPending(t, d, 0, 0, 0, 0)
	for at := range 64 {
		wantRead(t, d, at%4, at, "")
	}
}

func TestP2AHostReadsItsOwnNewestWrite(t *testing.T) {
	ok := must(t)
	d := withSector(5, "sure")
	d.Pending = nil
	d = ok(impl.WriteSector(d, 0, 5, "first"))
	d = ok(impl.WriteSector(d, 1, 5, "another's"))
	d = ok(impl.WriteSector(d, 0, 5, "second"))
	d = ok(impl.WriteSector(d, 0, 6, "elsewhere"))
	wantRead(t, d, 0, 5, "second")
	wantRead(t, d, 1, 5, "another's")
	wantRead(t, d, 2, 5, "sure")
	wantRead(t, d, 3, 5, "sure")
	wantRead(t, d, 0, 6, "elsewhere")
	wantRead(t, d, 1, 6, mixedDisk().Sectors[6])
	wantPending(t, d, 3, 1, 0, 0)
	d = ok(impl.WriteSector(d, 0, 5, ""))
	wantRead(t, d, 0, 5, "")
	wantRead(t, d, 2, 5, "sure")
	d = ok(impl.Flush(d, 1))
	wantRead(t, d, 0, 5, "")
	wantRead(t, d, 1, 5, "another's")
	wantRead(t, d, 2, 5, "another's")
}

func TestP2WritesStandInTheirOrder(t *testing.T) {
	ok := must(t)
	d, want := mixedDisk(), mixedDisk()
	for i, w := range []impl.Io{{Host: 3, At: 63, Data: strings.Repeat("y", 80)}, {Host: 0, At: 0}, {Host: 2, At: 5, Data: "\x00\xff"}} {
		d = ok(impl.WriteSector(d, w.Host, w.At, w.Data))
		want.Pending = append(want.Pending, w)
		if !sameDisk(d, want) {
			t.Error("write", i, "stands elsewhere")
		}
	}
}

func TestP2FlushMakesSureInOrder(t *testing.T) {
	d := mixedDisk()
	got, code := impl.Flush(d, 0)
	want := mixedDisk()
	want.Sectors[5], want.Sectors[6] = "d", "c"
	want.Pending = []impl.Io{d.Pending[1], d.Pending[3], d.Pending[5]}
	if code != impl.OK || !sameDisk(got, want) {
		t.Error("Flush of host 0", code, got.Sectors[5], got.Pending)
	}
	got, code = impl.Flush(got, 1)
	want.Sectors[5], want.Sectors[7] = "b", ""
	want.Pending = want.Pending[1:2]
	if code != impl.OK || !sameDisk(got, want) {
		t.Error("Flush of host 1", code, got.Sectors[5], got.Pending)
	}
	got, code = impl.Flush(got, 2)
	if code != impl.OK || !sameDisk(got, want) {
		t.Error("Flush of a host without writes", code)
	}
	got, code = impl.Flush(got, 3)
	want.Sectors[63], want.Pending = strings.Repeat("x", 80), nil
	if code != impl.OK || !sameDisk(got, want) {
		t.Error("Flush of host 3", code)
	}
}

func TestP2FlushOfAllTwoHundred(t *testing.T) {
	d := emptyDisk()
	for i := range 200 {
		d.Pending = append(d.Pending, impl.Io{Host: 3, At: i % 64, Data: strconv.Itoa(i)})
	}
	wantPending(t, d, 0, 0, 0, 200)
	got := must(t)(impl.Flush(d, 3))
	wantPending(t, got, 0, 0, 0, 0)
	for at := range 64 {
		last := 128 + at
		if last+64 < 200 {
			last += 64
		}
		wantRead(t, got, 0, at, strconv.Itoa(last))
	}
	if same := must(t)(impl.LoseHost(d, 3, 200)); !sameDisk(same, got) {
		t.Error("LoseHost that keeps 200")
	}
	for keep := range 201 {
		kept := must(t)(impl.LoseHost(d, 3, keep))
		want := emptyDisk()
		for i := range keep {
			want.Sectors[i%64] = strconv.Itoa(i)
		}
		if !sameDisk(kept, want) {
			t.Error("LoseHost that keeps", keep)
		}
	}
}

func TestP2LandOneMakesTheFirstSure(t *testing.T) {
	d := mixedDisk()
	got := must(t)(impl.LandOne(d, 0))
	want := mixedDisk()
	want.Sectors[5] = "a"
	want.Pending = want.Pending[1:]
	if !sameDisk(got, want) {
		t.Error("LandOne of host 0")
	}
	wantRead(t, got, 0, 5, "d")
	wantRead(t, got, 1, 5, "b")
	wantRead(t, got, 2, 5, "a")
	got = must(t)(impl.LandOne(got, 0))
	want.Sectors[6] = "c"
	want.Pending = slices.Delete(want.Pending, 1, 2)
	if !sameDisk(got, want) {
		t.Error("LandOne of host 0 again")
	}
	got = must(t)(impl.LandOne(got, 3))
	want.Sectors[63] = strings.Repeat("x", 80)
	want.Pending = slices.Delete(want.Pending, 1, 2)
	if !sameDisk(got, want) {
		t.Error("LandOne of host 3")
	}
	for _, host := range []int{2, 3} {
		if same, code := impl.LandOne(got, host); code != impl.ErrNone || !sameDisk(same, want) {
			t.Error("LandOne of a host without writes", host, code)
		}
	}
}

func TestP2ALostHostsFirstWritesSurvive(t *testing.T) {
	others := []impl.Io{{Host: 1, At: 5, Data: "b"}, {Host: 3, At: 63, Data: strings.Repeat("x", 80)}, {Host: 1, At: 7, Data: ""}}
	for _, c := range []struct {
		keep   int
		s5, s6 string
	}{{0, "sureF", "sureG"}, {1, "a", "sureG"}, {2, "a", "c"}, {3, "d", "c"}, {4, "d", "c"}, {200, "d", "c"}} {
		want := mixedDisk()
		want.Sectors[5], want.Sectors[6], want.Pending = c.s5, c.s6, others
		if got := must(t)(impl.LoseHost(mixedDisk(), 0, c.keep)); !sameDisk(got, want) {
			t.Error("LoseHost of host 0", c.keep, got.Sectors[5], got.Sectors[6], got.Pending)
		}
	}
	for _, keep := range []int{0, 1, 200} {
		if got := must(t)(impl.LoseHost(mixedDisk(), 2, keep)); !sameDisk(got, mixedDisk()) {
			t.Error("LoseHost of a host without writes", keep)
		}
	}
}

func TestP2TwoHundredWritesAtMost(t *testing.T) {
	d := emptyDisk()
	for i := range 200 {
		d = must(t)(impl.WriteSector(d, i%4, 63, strings.Repeat("x", 80)))
	}
	wantPending(t, d, 50, 50, 50, 50)
	for host := range 4 {
		if same, code := impl.WriteSector(d, host, 0, ""); code != impl.ErrFull || !sameDisk(same, d) {
			t.Error("the write beyond the last", host, code)
		}
	}
	d = must(t)(impl.LandOne(d, 2))
	d = must(t)(impl.WriteSector(d, 0, 63, "there is room again"))
	wantPending(t, d, 51, 50, 49, 50)
}

// wantCode holds a call's answer against a code with a disk that is zero.
func wantCode(t *testing.T, where string, got, want int, d impl.Disk) {
	t.Helper()
	if got != want || !sameDisk(d, impl.Disk{}) {
		t.Errorf("%s: code %d, not %d (%d sectors)", where, got, want, len(d.Sectors))
	}
}

func TestP2WrongDisks(t *testing.T) {
	for _, w := range wrongDisks() {
		for _, s := range []setting{{0, 5, 0, "x"}, {4, 64, 201, strings.Repeat("x", 81)}, {-1, -1, -1, ""}, {least, greatest, least, ""}} {
			for _, c := range diskCalls(s.host, s.at, s.keep, s.data)[1:] {
				if got := c.run(w.disk); !sameAnswer(got, answer{code: impl.ErrBad}) {
					t.Error(w.name, c.name, got.code)
				}
			}
		}
	}
}

func TestP2WrongHosts(t *testing.T) {
	for _, host := range []int{-1, 4, least, greatest} {
		for _, s := range []setting{{host, 5, 0, "x"}, {host, 64, 201, strings.Repeat("x", 81)}, {host, -1, -1, ""}} {
			for _, d := range []impl.Disk{mixedDisk(), fullDisk(), emptyDisk()} {
				for _, c := range diskCalls(s.host, s.at, s.keep, s.data)[1:] {
					if got := c.run(d); !sameAnswer(got, answer{code: impl.ErrRange}) {
						t.Error(c.name, host, got.code)
					}
				}
			}
		}
	}
}

func TestP2WrongPlaces(t *testing.T) {
	for _, at := range []int{-1, 64, least, greatest} {
		for _, d := range []impl.Disk{mixedDisk(), fullDisk()} {
			if got, code := impl.ReadSector(d, 0, at); code != impl.ErrPlace || got != "" {
				t.Error("ReadSector", at, got, code)
			}
			for _, n := range []int{0, 80, 81, impl.MaxText} {
				got, code := impl.WriteSector(d, 3, at, strings.Repeat("x", n))
				wantCode(t, "WriteSector at "+strconv.Itoa(at), code, impl.ErrPlace, got)
			}
		}
	}
	for _, host := range []int{0, 3} {
		d := must(t)(impl.WriteSector(mixedDisk(), host, 63, "last"))
		wantRead(t, d, host, 63, "last")
		d = must(t)(impl.WriteSector(mixedDisk(), host, 0, "first"))
		wantRead(t, d, host, 0, "first")
	}
}

func TestP2WritesThatAreTooLong(t *testing.T) {
	for _, n := range []int{81, 82, 4096, impl.MaxText} {
		for _, d := range []impl.Disk{mixedDisk(), fullDisk()} {
			if got, code := impl.WriteSector(d, 0, 0, strings.Repeat("x", n)); code != impl.ErrRange || !sameDisk(got, d) {
				t.Error("WriteSector of", n, code, len(got.Sectors))
			}
		}
	}
	for _, n := range []int{0, 1, 79, 80} {
		d := must(t)(impl.WriteSector(mixedDisk(), 2, 0, strings.Repeat("x", n)))
		wantRead(t, d, 2, 0, strings.Repeat("x", n))
	}
}

func TestP2WrongKeeps(t *testing.T) {
	for _, keep := range []int{-1, 201, least, greatest} {
		for _, d := range []impl.Disk{emptyDisk(), mixedDisk(), fullDisk()} {
			got, code := impl.LoseHost(d, 0, keep)
			wantCode(t, "LoseHost "+strconv.Itoa(keep), code, impl.ErrRange, got)
		}
	}
}

// model keeps each host's writes in a queue of its own, with their places in the common order.
type model struct {
	sure  [64]string
	queue [4][]modelWrite
	next  int
}

type modelWrite struct {
	order, at int
	data      string
}

func (m *model) size() int {
	return len(m.queue[0]) + len(m.queue[1]) + len(m.queue[2]) + len(m.queue[3])
}

func (m *model) write(host, at int, data string) {
	m.queue[host] = append(m.queue[host], modelWrite{m.next, at, data})
	m.next++
}

func (m *model) land(host, n int) {
	for range min(n, len(m.queue[host])) {
		m.sure[m.queue[host][0].at] = m.queue[host][0].data
		m.queue[host] = m.queue[host][1:]
	}
}

func (m *model) read(host, at int) string {
	got := m.sure[at]
	for _, w := range m.queue[host] {
		if w.at == at {
			got = w.data
		}
	}
	return got
}

func (m *model) disk() impl.Disk {
	byOrder := map[int]impl.Io{}
	for host, q := range m.queue {
		for _, w := range q {
			byOrder[w.order] = impl.Io{Host: host, At: w.at, Data: w.data}
		}
	}
	d := impl.Disk{Sectors: slices.Clone(m.sure[:])}
	for i := range m.next {
		if w, ok := byOrder[i]; ok {
			d.Pending = append(d.Pending, w)
		}
	}
	return d
}

// step does one act of the run on the model and on the disk, and tells the code that the disk must answer.
func (m *model) step(r *rand.Rand, d impl.Disk) (impl.Disk, int, int) {
	host, at, want := r.Intn(4), r.Intn(64), impl.OK
	switch act := r.Intn(1000); {
	case act < 850:
		data := strings.Repeat(strconv.Itoa(r.Intn(10)), r.Intn(81))
		if m.size() == 200 {
			want = impl.ErrFull
		} else {
			m.write(host, at, data)
		}
		got, code := impl.WriteSector(d, host, at, data)
		return got, code, want
	case act < 990:
		if len(m.queue[host]) == 0 {
			want = impl.ErrNone
		}
		m.land(host, 1)
		got, code := impl.LandOne(d, host)
		return got, code, want
	case act < 995:
		m.land(host, 200)
		got, code := impl.Flush(d, host)
		return got, code, want
	default:
		keep := r.Intn(201) >> r.Intn(8)
		m.land(host, keep)
		m.queue[host] = nil
		got, code := impl.LoseHost(d, host, keep)
		return got, code, want
	}
}

func TestP2LongRunsAgreeWithQueues(t *testing.T) {
	met := map[int]int{}
	for seed := range int64(12) {
		r, m, d := rand.New(rand.NewSource(seed)), &model{}, impl.NewDisk()
		for i := range 800 {
			got, code, want := m.step(r, d)
			if code != want || !sameDisk(got, m.disk()) {
				t.Fatal("run", seed, "step", i, "code", code, "not", want)
			}
			d = got
			met[code]++
			host, at := r.Intn(4), r.Intn(64)
			wantRead(t, d, host, at, m.read(host, at))
			wantPending(t, d, len(m.queue[0]), len(m.queue[1]), len(m.queue[2]), len(m.queue[3]))
		}
	}
	if met[impl.ErrFull] == 0 || met[impl.ErrNone] == 0 {
		t.Error("the runs met no full disk, or no host without writes:", met)
	}
}
