// Package disk: a stand-in for a disk that may lose what was not synced: see DOC.md.
package disk

import "pact/api"

// sector is an array and no slice, so that every hand-over is a copy.
type sector [api.Sector]byte

// write is a write that is not durable yet.
type write struct {
	at   int
	data sector
}

// Disk is a row of sectors.
type Disk struct {
	durable []sector
	// Every write is kept by itself, not only the last one of its sector: a crash may take any of them away.
	pending []write
	syncs   int
}

// New makes a disk (P2).
func New(sectors int) (*Disk, api.Errno) {
	if sectors < 1 || sectors > api.MaxSectors {
		return nil, api.ErrArg
	}
	return &Disk{durable: make([]sector, sectors)}, api.OK
}

// Write writes a sector (P3).
func (d *Disk) Write(i int, b []byte) api.Errno {
	if !d.has(i) || len(b) != api.Sector {
		return api.ErrArg
	}
	d.pending = append(d.pending, write{at: i, data: sector(b)})
	return api.OK
}

// Read reads a sector (P3).
func (d *Disk) Read(i int) ([]byte, api.Errno) {
	if !d.has(i) {
		return nil, api.ErrArg
	}
	s := d.current(i)
	return s[:], api.OK
}

// Sync makes all that was written durable (P4).
func (d *Disk) Sync() {
	for _, w := range d.pending {
		d.durable[w.at] = w.data
	}
	d.pending = nil
	d.syncs++
}

// Pending tells how many writes are not durable (P4).
func (d *Disk) Pending() int { return len(d.pending) }

// Syncs tells how often Sync was called (P4).
func (d *Disk) Syncs() int { return d.syncs }

// Crash loses the writes that are not durable, but for those that are kept (P5).
func (d *Disk) Crash(keep []bool) {
	for k, w := range d.pending {
		if k < len(keep) && keep[k] {
			d.durable[w.at] = w.data
		}
	}
	d.pending = nil
}

func (d *Disk) has(i int) bool { return i >= 0 && i < len(d.durable) }

// current goes from the newest write to the oldest, for the newest one of a sector hides those ahead of it.
func (d *Disk) current(i int) sector {
	for k := len(d.pending) - 1; k >= 0; k-- {
		if d.pending[k].at == i {
			return d.pending[k].data
		}
	}
	return d.durable[i]
}
