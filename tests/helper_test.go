package tests

import (
	"math"
	"slices"
	"strings"
	"testing"

	"loop.example/g00456/impl"
)

const (
	greatest = math.MaxInt
	least    = math.MinInt
)

// guard stands behind the end of the lists that are handed in.
const guard = "behind the end"

var guardIo = impl.Io{Host: 77, At: 777, Data: guard}

// sameDisk holds nil and empty lists for the same, as slices.Equal does.
func sameDisk(a, b impl.Disk) bool {
	return slices.Equal(a.Sectors, b.Sectors) && slices.Equal(a.Pending, b.Pending)
}

// roomy is d in lists with guards behind their ends, where a careless append would write.
func roomy(d impl.Disk) impl.Disk {
	sectors := make([]string, len(d.Sectors)+3)
	pending := make([]impl.Io, len(d.Pending)+3)
	n, p := copy(sectors, d.Sectors), copy(pending, d.Pending)
	for i := range 3 {
		sectors[n+i], pending[p+i] = guard, guardIo
	}
	return impl.Disk{Sectors: sectors[:n], Pending: pending[:p]}
}

// untouched tells whether the roomy disk d is still like was, and its guards stand.
func untouched(d, was impl.Disk) bool {
	if !sameDisk(d, was) {
		return false
	}
	for _, s := range d.Sectors[len(d.Sectors):cap(d.Sectors)] {
		if s != guard {
			return false
		}
	}
	for _, w := range d.Pending[len(d.Pending):cap(d.Pending)] {
		if w != guardIo {
			return false
		}
	}
	return true
}

// scribble writes over all of a disk's memory, also over what stands behind the ends of its lists.
func scribble(d impl.Disk) {
	fillUp(d.Sectors, "scribbled")
	fillUp(d.Pending, impl.Io{Host: -9, At: -9, Data: "scribbled"})
}

// cloneDisk does not lean on the program.
func cloneDisk(d impl.Disk) impl.Disk {
	return impl.Disk{Sectors: slices.Clone(d.Sectors), Pending: slices.Clone(d.Pending)}
}

// emptyDisk does not lean on the program either.
func emptyDisk() impl.Disk {
	return impl.Disk{Sectors: make([]string, 64)}
}

func diskWith(pending ...impl.Io) impl.Disk {
	d := emptyDisk()
	d.Pending = pending
	return d
}

// mixedDisk has sectors that are sure and writes of hosts 0, 1 and 3, one of them an empty text, some of them in one place.
func mixedDisk() impl.Disk {
	d := diskWith(
		impl.Io{Host: 0, At: 5, Data: "a"},
		impl.Io{Host: 1, At: 5, Data: "b"},
		impl.Io{Host: 0, At: 6, Data: "c"},
		impl.Io{Host: 3, At: 63, Data: strings.Repeat("x", 80)},
		impl.Io{Host: 0, At: 5, Data: "d"},
		impl.Io{Host: 1, At: 7, Data: ""},
	)
	for i := range d.Sectors {
		d.Sectors[i] = "sure" + string(rune('A'+i%26))
	}
	return d
}

// fullDisk has 200 writes that are not sure, of all hosts in turn.
func fullDisk() impl.Disk {
	d := emptyDisk()
	for i := range 200 {
		d.Pending = append(d.Pending, impl.Io{Host: i % 4, At: i % 64, Data: "w" + string(rune('a'+i%26))})
	}
	return d
}

// readBy is what a host reads, without the program.
func readBy(d impl.Disk, host, at int) string {
	data := d.Sectors[at]
	for _, w := range d.Pending {
		if w.Host == host && w.At == at {
			data = w.Data
		}
	}
	return data
}

// putBy makes, likewise, all of the host's writes sure, and one more behind them.
func putBy(d impl.Disk, host, at int, data string) impl.Disk {
	out := impl.Disk{Sectors: slices.Clone(d.Sectors)}
	for _, w := range d.Pending {
		if w.Host == host {
			out.Sectors[w.At] = w.Data
		} else {
			out.Pending = append(out.Pending, w)
		}
	}
	out.Sectors[at] = data
	return out
}

func withSector(at int, data string) impl.Disk {
	d := mixedDisk()
	d.Sectors[at] = data
	return d
}

func withWrite(at int, w impl.Io) impl.Disk {
	d := mixedDisk()
	d.Pending[at] = w
	return d
}

type namedDisk struct {
	name string
	disk impl.Disk
}

func rightDisks() []namedDisk {
	nilPending, noPending := emptyDisk(), emptyDisk()
	nilPending.Pending, noPending.Pending = nil, []impl.Io{}
	return []namedDisk{
		{"nil writes", nilPending},
		{"no writes", noPending},
		{"mixed", mixedDisk()},
		{"full", fullDisk()},
		{"sectors of 80 bytes", withSector(63, strings.Repeat("s", 80))},
		{"write of host 3 at 63", withWrite(5, impl.Io{Host: 3, At: 63, Data: strings.Repeat("s", 80)})},
		{"write of host 0 at 0", withWrite(0, impl.Io{})},
		{"bytes that are no letters", withSector(0, "\x00\xff\n")},
		{"generations", deltaDisk()},
		{"generations on a full disk", filledUp(deltaDisk(), 3, 200)},
		{"a leader", leaderDisk()},
		{"a leader on a full disk", filledUp(leaderDisk(), 1, 200)},
		{"room for one write", filledUp(leaderDisk(), 2, 199)},
		{"the last version", diskOf(impl.Leader{Ver: 1000000, Owner: 2, Gen: 5}, impl.Block{Ver: 1000000, Mbal: 9, Bal: 9, Inp: 1025})},
		{"the last ballot", diskOf(impl.Leader{Ver: 6, Owner: 2, Gen: 5}, impl.Block{Ver: 7, Mbal: 1000000})},
		{"a block of a later version", diskOf(impl.Leader{Ver: 6, Owner: 2, Gen: 5}, impl.Block{}, impl.Block{Ver: 8})},
		{"journals", journalDisk()},
		{"journals, and room for a few moves", filledUp(journalDisk(), 2, 195)},
		{"an image", imageDisk()},
		{"an image, and room for three", filledUp(imageDisk(), 1, 197)},
		{"an image, and room for two", filledUp(imageDisk(), 0, 198)},
	}
}

// wrongDisks are not right in one way each, at the first and at the last place where it may be.
func wrongDisks() []namedDisk {
	long := strings.Repeat("s", 81)
	sectors := func(n int) impl.Disk { return impl.Disk{Sectors: make([]string, n)} }
	tooMany := fullDisk()
	tooMany.Pending = append(tooMany.Pending, impl.Io{})
	great := emptyDisk()
	great.Pending = make([]impl.Io, impl.MaxList+1)
	return []namedDisk{
		{"zero", impl.Disk{}},
		{"empty lists", impl.Disk{Sectors: []string{}, Pending: []impl.Io{}}},
		{"63 sectors", sectors(63)},
		{"65 sectors", sectors(65)},
		{"4097 sectors", sectors(4097)},
		{"first sector of 81", withSector(0, long)},
		{"last sector of 81", withSector(63, long)},
		{"sector of more than MaxText", withSector(9, strings.Repeat("s", impl.MaxText+1))},
		{"201 writes", tooMany},
		{"4097 writes", great},
		{"host -1 first", withWrite(0, impl.Io{Host: -1})},
		{"host 4 last", withWrite(5, impl.Io{Host: 4})},
		{"least host", withWrite(2, impl.Io{Host: least})},
		{"greatest host", withWrite(2, impl.Io{Host: greatest})},
		{"place -1 first", withWrite(0, impl.Io{At: -1})},
		{"place 64 last", withWrite(5, impl.Io{At: 64})},
		{"least place", withWrite(2, impl.Io{At: least})},
		{"greatest place", withWrite(2, impl.Io{At: greatest})},
		{"write of 81 first", withWrite(0, impl.Io{Data: long})},
		{"write of 81 last", withWrite(5, impl.Io{Data: long})},
	}
}

// answer is what any call on a disk answers; what a call has not stays zero.
type answer struct {
	disk    impl.Disk
	text    string
	number  int
	delta   impl.Delta
	leader  impl.Leader
	updates []impl.Update
	moves   []impl.Move
	image   impl.Image
	code    int
}

func sameAnswer(a, b answer) bool {
	return sameDisk(a.disk, b.disk) && a.text == b.text && a.number == b.number && a.delta == b.delta && a.leader == b.leader &&
		slices.Equal(a.updates, b.updates) && slices.Equal(a.moves, b.moves) && sameImage(a.image, b.image) && a.code == b.code
}

func cloneAnswer(a answer) answer {
	a.disk, a.updates, a.moves, a.image = cloneDisk(a.disk), slices.Clone(a.updates), slices.Clone(a.moves), cloneImage(a.image)
	return a
}

// scribbleAnswer writes over all of an answer's memory.
func scribbleAnswer(a answer) {
	scribble(a.disk)
	fillUp(a.updates, impl.Update{At: -9, Data: "scribbled"})
	fillUp(a.moves, impl.Move{Kind: -9, At: -9, Data: "scribbled"})
	scribbleImage(a.image)
}

// fillUp writes one thing over a list, also over what stands behind its end.
func fillUp[T any](list []T, with T) {
	for i := range list[:cap(list)] {
		list[:cap(list)][i] = with
	}
}

type diskCall struct {
	name string
	run  func(d impl.Disk) answer
}

// asItWas has, of each call, the codes with which its disk is as it was.
var asItWas = map[string][]int{
	"WriteSector": {impl.ErrFull},
	"LandOne":     {impl.ErrNone},
	"TakeDelta":   {impl.ErrMany},
	"RenewDelta":  {impl.ErrStale, impl.ErrOrder},
	"Elect":       {impl.ErrMany},
	"Release":     {impl.ErrStale, impl.ErrHeld, impl.ErrMany},
	"MovesDo":     {impl.ErrFull},
	"Format":      {impl.ErrFull},
}

// asFarAsItCame has those with which it is what was done up to there.
var asFarAsItCame = map[string][]int{
	"Elect": {impl.ErrAbort},
}

// diskCalls are the calls of chapter 2 with these arguments.
func diskCalls(host, at, keep int, data string) []diskCall {
	return []diskCall{
		{"DiskOK", func(d impl.Disk) (a answer) {
			if impl.DiskOK(d) {
				a.number = 1
			}
			return a
		}},
		{"ReadSector", func(d impl.Disk) (a answer) { a.text, a.code = impl.ReadSector(d, host, at); return a }},
		{"WriteSector", func(d impl.Disk) (a answer) { a.disk, a.code = impl.WriteSector(d, host, at, data); return a }},
		{"Flush", func(d impl.Disk) (a answer) { a.disk, a.code = impl.Flush(d, host); return a }},
		{"LandOne", func(d impl.Disk) (a answer) { a.disk, a.code = impl.LandOne(d, host); return a }},
		{"LoseHost", func(d impl.Disk) (a answer) { a.disk, a.code = impl.LoseHost(d, host, keep); return a }},
		{"PendingOf", func(d impl.Disk) (a answer) { a.number, a.code = impl.PendingOf(d, host); return a }},
	}
}

type setting struct {
	host, at, keep int
	data           string
}

// settings are arguments at, within and beyond each bound, up to the greatest and least integers.
func settings() []setting {
	var out []setting
	for _, host := range []int{0, 1, 3, -1, 4, least, greatest} {
		for _, at := range []int{0, 5, 63, -1, 64, least, greatest} {
			out = append(out, setting{host, at, 2, "data"})
		}
		for _, keep := range []int{0, 1, 200, -1, 201, least, greatest} {
			out = append(out, setting{host, 5, keep, ""})
		}
		for _, n := range []int{80, 81, impl.MaxText, impl.MaxText + 1} {
			out = append(out, setting{host, 6, 1, strings.Repeat("d", n)}, setting{host, 64, 1, strings.Repeat("d", n)})
		}
	}
	return out
}

// allCalls are the calls on a disk with each setting.
func allCalls() []diskCall {
	var out []diskCall
	for _, s := range settings() {
		out = append(out, diskCalls(s.host, s.at, s.keep, s.data)...)
	}
	return slices.Concat(out, deltaCalls(), leaderCalls(), journalCalls(), storeCalls())
}

// everyCall runs f with each disk, right and wrong, and each call.
func everyCall(t *testing.T, f func(where string, d impl.Disk, c diskCall)) {
	t.Helper()
	calls := allCalls()
	for _, d := range slices.Concat(rightDisks(), wrongDisks()) {
		for _, c := range calls {
			f(d.name+": "+c.name, d.disk, c)
		}
	}
}
