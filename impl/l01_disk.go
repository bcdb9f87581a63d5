package impl

const (
	DiskSize   = 64
	SectorSize = 80
	Hosts      = 4
	MaxPending = 200
)

type Io struct {
	Host, At int
	Data     string
}

type Disk struct {
	Sectors []string
	Pending []Io
}

func DiskOK(d Disk) bool {
	return sectorsOK(d.Sectors) && pendingOK(d.Pending)
}

func NewDisk() Disk {
	return Disk{Sectors: make([]string, DiskSize)}
}

func ReadSector(d Disk, host, at int) (string, int) {
	if code := placeFault(d, host, at); code != OK {
		return "", code
	}
	return seenBy(d, host, at), OK
}

func WriteSector(d Disk, host, at int, data string) (Disk, int) {
	if len(data) > MaxText {
		return Disk{}, ErrLong
	}
	if code := placeFault(d, host, at); code != OK {
		return Disk{}, code
	}
	out := copyDisk(d)
	if len(data) > SectorSize {
		return out, ErrRange
	}
	if len(out.Pending) >= MaxPending {
		return out, ErrFull
	}
	out.Pending = append(out.Pending, Io{Host: host, At: at, Data: data})
	return out, OK
}

func Flush(d Disk, host int) (Disk, int) {
	if code := hostFault(d, host); code != OK {
		return Disk{}, code
	}
	return landFirst(d, host, MaxPending), OK
}

func LoseHost(d Disk, host, keep int) (Disk, int) {
	if code := hostFault(d, host); code != OK {
		return Disk{}, code
	}
	if keep < 0 || keep > MaxPending {
		return Disk{}, ErrRange
	}
	return dropWrites(landFirst(d, host, keep), host), OK
}

func PendingOf(d Disk, host int) (int, int) {
	if code := hostFault(d, host); code != OK {
		return 0, code
	}
	return countWrites(d, host), OK
}

func LandOne(d Disk, host int) (Disk, int) {
	if code := hostFault(d, host); code != OK {
		return Disk{}, code
	}
	if countWrites(d, host) == 0 {
		return copyDisk(d), ErrNone
	}
	return landFirst(d, host, 1), OK
}

func hostOK(host int) bool {
	return host >= 0 && host < Hosts
}

func placeOK(at int) bool {
	return at >= 0 && at < DiskSize
}

func sectorsOK(sectors []string) bool {
	if len(sectors) != DiskSize {
		return false
	}
	for _, s := range sectors {
		if len(s) > SectorSize {
			return false
		}
	}
	return true
}

func pendingOK(pending []Io) bool {
	if len(pending) > MaxPending {
		return false
	}
	for _, w := range pending {
		if !hostOK(w.Host) || !placeOK(w.At) || len(w.Data) > SectorSize {
			return false
		}
	}
	return true
}

func hostFault(d Disk, host int) int {
	if !DiskOK(d) {
		return ErrBad
	}
	if !hostOK(host) {
		return ErrRange
	}
	return OK
}

func placeFault(d Disk, host, at int) int {
	if code := hostFault(d, host); code != OK {
		return code
	}
	if !placeOK(at) {
		return ErrPlace
	}
	return OK
}

func copyDisk(d Disk) Disk {
	return Disk{Sectors: copyList(d.Sectors), Pending: copyList(d.Pending)}
}

// seenBy takes a right disk, host and place.
func seenBy(d Disk, host, at int) string {
	// From the end: the newest write hides the host's earlier ones.
	for i := len(d.Pending) - 1; i >= 0; i-- {
		if w := d.Pending[i]; w.Host == host && w.At == at {
			return w.Data
		}
	}
	return d.Sectors[at]
}

// writeSure makes the host's earlier writes sure, too: a flush spares none.
func writeSure(d Disk, host, at int, data string) (Disk, int) {
	out, code := WriteSector(d, host, at, data)
	if code != OK {
		return Disk{}, code
	}
	return Flush(out, host)
}

func countWrites(d Disk, host int) int {
	n := 0
	for _, w := range d.Pending {
		if w.Host == host {
			n++
		}
	}
	return n
}

// landFirst makes the host's first count writes sure. What it has beyond them
// stays unsure, as do the writes of other hosts, wherever they stand between.
func landFirst(d Disk, host, count int) Disk {
	out := Disk{Sectors: copyList(d.Sectors)}
	for _, w := range d.Pending {
		if w.Host == host && count > 0 {
			out.Sectors[w.At] = w.Data
			count--
		} else {
			out.Pending = append(out.Pending, w)
		}
	}
	return out
}

func dropWrites(d Disk, host int) Disk {
	out := Disk{Sectors: copyList(d.Sectors)}
	for _, w := range d.Pending {
		if w.Host != host {
			out.Pending = append(out.Pending, w)
		}
	}
	return out
}
