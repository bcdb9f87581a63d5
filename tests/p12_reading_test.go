package tests

import (
	"math/rand"
	"slices"
	"strconv"
	"strings"
	"testing"

	"loop.example/g00456/impl"
)

// Promise 12, of images that hosts read from their sectors, and of sectors that hold none; p12_reckoning_test.go says what it is held against.

// A host writes an image's sectors: it reads the image at once, the others when it is flushed.
func TestP12ImagesAreReadBack(t *testing.T) {
	for i, m := range storeImages() {
		list, code := impl.ImageUpdates(m)
		wantOK(t, "ImageUpdates", code)
		own := i % 4
		d := impl.NewDisk()
		for _, u := range list {
			d = must(t)(impl.WriteSector(d, own, u.At, u.Data))
		}
		for host := range 4 {
			got, code := impl.ReadImage(d, host)
			if host == own {
				wantImage(t, "its own", got, code, m, impl.OK)
			} else {
				wantNoImage(t, "another's", got, code, impl.ErrBroken)
			}
		}
		d = must(t)(impl.Flush(d, own))
		wantImageOn(t, "flushed", d, m)
	}
}

// Over an elder image: the writer reads the new one, others the old one; write by write that is sure, what the reckoning says.
func TestP12ImagesThatAreNotSure(t *testing.T) {
	images, met := storeImages(), map[bool]int{}
	for i, a := range images {
		b, own := images[(7*i+3)%len(images)], i%4
		list, code := impl.DiffUpdates(a, b)
		wantOK(t, "DiffUpdates", code)
		d := diskOfImage(a)
		for _, u := range list {
			d = must(t)(impl.WriteSector(d, own, u.At, u.Data))
		}
		for n := range len(list) + 1 {
			for host := range 4 {
				got, code := impl.ReadImage(d, host)
				switch {
				case host == own || n == len(list):
					wantImage(t, "the new one", got, code, b, impl.OK)
				case n == 0:
					wantImage(t, "the old one", got, code, a, impl.OK)
				default:
					met[wantReading(t, "half of it", d, host)]++
				}
			}
			if n < len(list) {
				d = must(t)(impl.LandOne(d, own))
			}
		}
	}
	if met[true] < 100 || met[false] < 100 {
		t.Error("few readings of one sort:", met)
	}
}

// Its own newest write in a place hides its elder ones there, and what is sure.
func TestP12AHostsOwnNewestWrites(t *testing.T) {
	m := sharing()
	for own := range 4 {
		for at, text := range sectorsBy(m) {
			d := diskOfImage(m)
			d.Pending = []impl.Io{{Host: own, At: at, Data: text}, {Host: (own + 1) % 4, At: at, Data: "another's"}, {Host: own, At: at, Data: "broken"}}
			for host := range 4 {
				got, code := impl.ReadImage(d, host)
				if host == own || host == (own+1)%4 {
					wantNoImage(t, "its own is broken", got, code, impl.ErrBroken)
				} else {
					wantImage(t, "another's is broken", got, code, m, impl.OK)
				}
			}
			d.Pending = append(d.Pending, impl.Io{Host: own, At: at, Data: text})
			d.Sectors[at] = "sure, and broken"
			for host := range 4 {
				if wantReading(t, "sure, and broken", d, host) != (host == own) {
					t.Error("who reads it:", host, own, at)
				}
			}
		}
	}
}

// Nothing is written: a full disk is read as any other one.
func TestP12ImagesOnFullDisks(t *testing.T) {
	for _, m := range []impl.Image{imageOf(nil), sharing(), usedUp()} {
		for host := range 4 {
			d := filledUp(diskOfImage(m), host, 200)
			for reader := range 4 {
				if ok := wantReading(t, "full", d, reader); !ok && reader != host {
					t.Error("another's writes are met:", reader, host)
				}
			}
		}
	}
}

// noRecordsLike are texts that stand for one of the image's, of at most 80 bytes, and are no record of its kind.
func noRecordsLike(text string) []string {
	kind, list, _ := opened(text)
	out := []string{"", "rubbish", "\x00", " " + text, text[1:], text[4:], text + "\x00", text + "\x00\x00\x00\x00", strings.Repeat("\x00", 80), packed(list)}
	for end := range len(text) {
		out = append(out, text[:end])
	}
	for other := range 12 {
		if other != kind {
			out = append(out, sealed(other, list), sealed(other, nil), sealed(other, []int{0}))
		}
	}
	for _, at := range []int{0, 1, 2, 3, len(text) - 1} {
		out = append(out, text[:at]+string([]byte{text[at] + 1})+text[at+1:])
	}
	return slices.DeleteFunc(out, func(t string) bool { return len(t) > 80 })
}

// looked are images with no, one, two and three snapshots; some have all clusters counted, some none.
func looked() []impl.Image {
	return []impl.Image{imageOf(nil), imageOf(evenTable(12, 0)), imageOf([]int{2, 25}), imageOf(nil, nil), usedUp(), usedUpBySnaps(), imageOf(nil, nil, nil, nil), sharing()}
}

func TestP12SectorsThatHoldNoRecord(t *testing.T) {
	for _, m := range looked() {
		for at, text := range sectorsBy(m) {
			for _, none := range noRecordsLike(text) {
				d := diskOfImage(m)
				d.Sectors[at] = none
				wantNoImageOn(t, "sector "+strconv.Itoa(at)+" with "+strconv.Quote(none), d, impl.ErrBroken)
			}
		}
	}
}

// More numbers and fewer: a table of another length may be right, all else is not.
func TestP12RecordsOfMoreAndOfFewerNumbers(t *testing.T) {
	met := map[bool]int{}
	for _, m := range looked() {
		for at, text := range sectorsBy(m) {
			kind, list, _ := opened(text)
			long := slices.Concat(list, []int{0, 1, 27}, make([]int, 16))
			for size := range 18 {
				if size == len(list) {
					continue
				}
				d := diskOfImage(m)
				d.Sectors[at] = sealed(kind, long[:size])
				ok := wantReading(t, "sector "+strconv.Itoa(at)+" of "+strconv.Itoa(size), d, size%4)
				met[ok]++
				if ok && kind != 3 {
					t.Error("read as an image: sector", at, "of", size)
				}
			}
		}
	}
	if met[true] < 20 || met[false] < 500 {
		t.Error("few of one sort:", met)
	}
}

// Numbers of names: with a digit 0, none at all, of seven letters, and all that are right.
func TestP12NamesOnTheDisk(t *testing.T) {
	d := diskOfImage(imageOf(nil, nil, nil, nil))
	right := []int{1, 13, 26, 28, 53, 55, 728, 757, 14900788, 14348906, 387420488}
	wrong := []int{0, 27, 54, 702, 729, 730, 756, 27*27*27 + 27, 14348907, 14348908, 387420489, 387420490, 402321277, 1 << 30, mostNumber - 1, mostNumber}
	for i := range 3 {
		for _, n := range slices.Concat(right, wrong) {
			names := []int{2, 3, 4}
			names[i] = n
			d.Sectors[9] = superText(3, names...)
			if ok := wantReading(t, "name "+strconv.Itoa(n), d, i); ok != slices.Contains(right, n) {
				t.Error("read as an image:", n, ok)
			}
		}
	}
	for _, names := range [][]int{{5, 5}, {387420488, 387420488}, {5, 5, 6}, {5, 6, 5}, {6, 5, 5}, {5, 5, 5}} {
		d.Sectors[9] = superText(len(names), names...)
		wantNoImageOn(t, "a name twice", d, impl.ErrBroken)
	}
	for n := 1; n < 30000; n += 7 {
		d.Sectors[9] = superText(1, n)
		wantReading(t, "name "+strconv.Itoa(n), d, n%4)
	}
}

// The number of snapshots is how many names there are, and three at most, also if a fourth one's table stood there.
func TestP12NumbersOfSnapshots(t *testing.T) {
	d := diskOfImage(imageOf(nil, nil, nil, nil))
	for at := 15; at < 39; at++ {
		d.Sectors[at] = sealed(3, nil)
	}
	names := []int{1, 2, 3, 4, 5, 6, 7, 8, 9, 10, 11, 12, 13, 14, 15}
	for count := range 16 {
		for there := range 16 {
			d.Sectors[9] = superText(count, names[:there]...)
			if ok := wantReading(t, "number "+strconv.Itoa(count), d, there%4); ok != (count == there && count <= 3) {
				t.Error("read as an image:", count, there, ok)
			}
		}
	}
	for _, count := range []int{16, 255, 256, 257, 259, mostNumber, 1 << 31, 1<<32 - 1} {
		for there := range 4 {
			d.Sectors[9] = superText(count, names[:there]...)
			wantNoImageOn(t, "number "+strconv.Itoa(count), d, impl.ErrBroken)
		}
	}
	d.Sectors[9] = sealed(1, nil)
	wantNoImageOn(t, "no number", d, impl.ErrBroken)
}

// Counts and tables that are right by themselves, and do not fit each other.
func TestP12CountsAndTablesThatDoNotFit(t *testing.T) {
	for _, m := range looked() {
		for c := range 24 {
			for _, n := range []int{0, 1, 2, 3, 4, 5, 15} {
				if n == m.Refs[c] {
					continue
				}
				x := imageLike(m, func(m *impl.Image) { m.Refs[c] = n })
				wantNoImageOn(t, "count", holding(diskOfImage(m), updatesBy(x)), impl.ErrBroken)
			}
		}
		for i, table := range tablesIn(m) {
			for g, entry := range table {
				for _, other := range []int{0, 1, 2, 3, 14, 25} {
					if entry < 2 && other < 2 || other == entry {
						continue
					}
					d := diskOfImage(m)
					list := slices.Clone(table)
					list[g] = other
					d.Sectors[11+i] = sealed(3, list)
					wantNoImageOn(t, "entry", d, impl.ErrBroken)
				}
			}
		}
	}
	for _, w := range []impl.Image{imageOf([]int{2, 2}), imageOf(nil, []int{25, 0, 25}), imageOf([]int{4}, []int{4}, nil, []int{4, 4})} {
		wantNoImageOn(t, "a cluster twice, counted so", diskOfImage(w), impl.ErrBroken)
	}
}

func TestP12ValuesOnTheDisk(t *testing.T) {
	for _, m := range looked() {
		for c, n := range m.Refs {
			d := diskOfImage(m)
			for _, value := range []int{0, 1, 27, 255, 256, mostNumber - 1, mostNumber} {
				d.Sectors[15+c] = sealed(4, []int{value})
				want := imageLike(m, func(m *impl.Image) { m.Data[c] = value * min(n, 1) })
				wantImageOn(t, "value "+strconv.Itoa(value), d, want)
			}
			for _, value := range []int{1 << 31, 1<<31 + 1, 1<<32 - 1} {
				d.Sectors[15+c] = sealed(4, []int{value})
				if n > 0 {
					wantNoImageOn(t, "no value", d, impl.ErrBroken)
				} else {
					wantImageOn(t, "no value of none", d, m)
				}
			}
		}
	}
}

// A byte that is changed by 251 is not seen by the sum; what comes of it may be another right image.
func TestP12SectorsWithAByteChanged(t *testing.T) {
	for _, m := range []impl.Image{imageOf([]int{0, 2}, []int{25}), sharing()} {
		for at, text := range sectorsBy(m) {
			d := diskOfImage(m)
			for i := range len(text) {
				for n := range 256 {
					d.Sectors[at] = text[:i] + string([]byte{byte(n)}) + text[i+1:]
					ok := wantReading(t, "sector "+strconv.Itoa(at), d, n%4)
					if ok && i < 4 && d.Sectors[at] != text {
						t.Error("another head is read as an image:", at, i, n)
					}
				}
			}
		}
	}
}

// Images with any few sectors of others' between theirs, sure and not.
func TestP12RandomDisksAgreeWithTheDocument(t *testing.T) {
	r := rand.New(rand.NewSource(122))
	images, met := storeImages(), map[bool]int{}
	anyText := func(at int) string {
		texts := sectorsBy(images[r.Intn(len(images))])
		if text, there := texts[at]; there && r.Intn(5) > 0 {
			return text
		}
		none := noRecordsLike(texts[9+r.Intn(3)])
		return none[r.Intn(len(none))]
	}
	for range 4000 {
		d := diskOfImage(images[r.Intn(len(images))])
		for range r.Intn(3) {
			at := 9 + r.Intn(30)
			d.Sectors[at] = anyText(at)
		}
		for range r.Intn(4) {
			at := 9 + r.Intn(30)
			d.Pending = append(d.Pending, impl.Io{Host: r.Intn(4), At: at, Data: anyText(at)})
		}
		for host := range 4 {
			met[wantReading(t, "random", d, host)]++
		}
		if t.Failed() {
			t.Fatal("on", d)
		}
	}
	if met[true] < 3000 || met[false] < 3000 {
		t.Error("few of one sort:", met)
	}
}

// The disk's codes are ahead: a disk that is none, then a host that is none, then what is broken.
func TestP12DisksAndHostsThatAreNone(t *testing.T) {
	for _, d := range []impl.Disk{emptyDisk(), rubbishDisk(), diskOfImage(sharing()), fullDisk()} {
		for _, host := range []int{-1, 4, 5, 256, 1 << 32, least, greatest} {
			m, code := impl.ReadImage(d, host)
			wantNoImage(t, "no host", m, code, impl.ErrRange)
		}
	}
	for _, w := range wrongDisks() {
		for _, host := range anyHosts() {
			m, code := impl.ReadImage(w.disk, host)
			wantNoImage(t, w.name, m, code, impl.ErrBad)
			m, code = impl.ReadImage(holdingWhatFits(w.disk, updatesBy(sharing())), host)
			wantNoImage(t, w.name+", with an image", m, code, impl.ErrBad)
		}
	}
	for _, d := range []impl.Disk{impl.NewDisk(), rubbishDisk(), mixedDisk(), fullDisk()} {
		wantNoImageOn(t, "no image", d, impl.ErrBroken)
	}
}

// holdingWhatFits is holding, of disks that may have too few sectors, and leaves what is not right there.
func holdingWhatFits(d impl.Disk, list []impl.Update) impl.Disk {
	d = cloneDisk(d)
	for _, u := range list {
		if u.At < len(d.Sectors) && len(d.Sectors[u.At]) <= 80 {
			d.Sectors[u.At] = u.Data
		}
	}
	return d
}
