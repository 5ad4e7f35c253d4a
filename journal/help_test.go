package journal_test

import (
	"bytes"
	"math"
	"testing"

	"pact/api"
	"pact/disk"
	"pact/journal"
)

func newDisk(t *testing.T, sectors int) *disk.Disk {
	t.Helper()
	d, e := disk.New(sectors)
	if e != api.OK {
		t.Fatalf("New(%d) = %d", sectors, e)
	}
	return d
}

func create(t *testing.T, d *disk.Disk, ring, per int) *journal.Journal {
	t.Helper()
	j, e := journal.Create(d, ring, per)
	if e != api.OK || j == nil {
		t.Fatalf("Create(.., %d, %d) = %v, %d", ring, per, j, e)
	}
	if d.Pending() != 0 {
		t.Fatalf("Create leaves %d writes that are not durable", d.Pending())
	}
	return j
}

func open(t *testing.T, d *disk.Disk, ring, per int) *journal.Journal {
	t.Helper()
	j, e := journal.Open(d, ring, per)
	if e != api.OK || j == nil {
		t.Fatalf("Open(.., %d, %d) = %v, %d", ring, per, j, e)
	}
	if d.Pending() != 0 {
		t.Fatalf("Open leaves %d writes that are not durable", d.Pending())
	}
	return j
}

// newJournal has a disk that is just great enough.
func newJournal(t *testing.T, ring, per int) (*disk.Disk, *journal.Journal) {
	t.Helper()
	d := newDisk(t, ring*per+2)
	return d, create(t, d, ring, per)
}

// add appends records, and looks at what each Append does to the disk.
func add(t *testing.T, d *disk.Disk, j *journal.Journal, records ...string) {
	t.Helper()
	for _, s := range records {
		next, durable, pending, syncs := j.Next(), j.Durable(), d.Pending(), d.Syncs()
		if n, e := j.Append([]byte(s)); n != next || e != api.OK {
			t.Fatalf("Append(%q) = %d, %d, want %d, OK", s, n, e, next)
		}
		if j.Next() != next+1 || j.Durable() != durable {
			t.Fatalf("behind Append: Next, Durable = %d, %d, want %d, %d", j.Next(), j.Durable(), next+1, durable)
		}
		if d.Pending() != pending+1 || d.Syncs() != syncs {
			t.Fatalf("Append made %d writes and %d Syncs", d.Pending()-pending, d.Syncs()-syncs)
		}
	}
}

func force(t *testing.T, d *disk.Disk, j *journal.Journal, n int) {
	t.Helper()
	durable, pending, syncs := j.Durable(), d.Pending(), d.Syncs()
	if n > durable {
		durable, pending, syncs = j.Next()-1, 0, syncs+1
	}
	if e := j.Force(n); e != api.OK {
		t.Fatalf("Force(%d) = %d", n, e)
	}
	if j.Durable() != durable || d.Pending() != pending || d.Syncs() != syncs {
		t.Fatalf("behind Force(%d): Durable, Pending, Syncs = %d, %d, %d, want %d, %d, %d", n, j.Durable(), d.Pending(), d.Syncs(), durable, pending, syncs)
	}
}

func truncate(t *testing.T, d *disk.Disk, j *journal.Journal, low int, note string) {
	t.Helper()
	if e := j.Truncate(low, []byte(note)); e != api.OK {
		t.Fatalf("Truncate(%d, %q) = %d", low, note, e)
	}
	if d.Pending() != 0 {
		t.Fatalf("Truncate leaves %d writes that are not durable", d.Pending())
	}
}

// wantJournal checks all that a journal tells: its records are just these, from low on.
func wantJournal(t *testing.T, j *journal.Journal, low, durable, epoch int, note string, records ...string) {
	t.Helper()
	next := low + len(records)
	if j.Low() != low || j.Next() != next || j.Durable() != durable || j.Epoch() != epoch {
		t.Errorf("Low, Next, Durable, Epoch = %d, %d, %d, %d, want %d, %d, %d, %d", j.Low(), j.Next(), j.Durable(), j.Epoch(), low, next, durable, epoch)
	}
	if string(j.Note()) != note {
		t.Errorf("Note = %q, want %q", j.Note(), note)
	}
	for k, s := range records {
		if b, e := j.Read(low + k); e != api.OK || string(b) != s {
			t.Errorf("Read(%d) = %q, %d, want %q, OK", low+k, b, e, s)
		}
	}
	for _, n := range []int{low - 1, next, next + 1, low - 1 - len(records), math.MinInt, math.MaxInt} {
		if b, e := j.Read(n); b != nil || e != api.ErrArg {
			t.Errorf("Read(%d) = %q, %d, want nil, ErrArg", n, b, e)
		}
	}
	if t.Failed() {
		t.FailNow()
	}
}

// image is all that a disk tells.
type image struct {
	sectors        [][]byte
	pending, syncs int
}

func imageOf(d *disk.Disk) image {
	m := image{pending: d.Pending(), syncs: d.Syncs()}
	for i := range api.MaxSectors {
		if b, e := d.Read(i); e == api.OK {
			m.sectors = append(m.sectors, b)
		}
	}
	return m
}

func wantImage(t *testing.T, d *disk.Disk, want image) {
	t.Helper()
	got := imageOf(d)
	if got.pending != want.pending || got.syncs != want.syncs {
		t.Fatalf("Pending, Syncs = %d, %d, want %d, %d", got.pending, got.syncs, want.pending, want.syncs)
	}
	for i, b := range want.sectors {
		if !bytes.Equal(got.sectors[i], b) {
			t.Fatalf("sector %d was changed", i)
		}
	}
}

// copySectors writes the bytes of all sectors of one disk to another.
func copySectors(t *testing.T, from, to *disk.Disk) {
	t.Helper()
	for i, b := range imageOf(from).sectors {
		if e := to.Write(i, b); e != api.OK {
			t.Fatalf("Write(%d, ..) = %d", i, e)
		}
	}
}

// keeps tells all lists of bools of a length.
func keeps(length int) [][]bool {
	var all [][]bool
	for bits := range 1 << length {
		keep := make([]bool, length)
		for k := range keep {
			keep[k] = bits>>k&1 == 1
		}
		all = append(all, keep)
	}
	return all
}

// ahead tells how many come ahead of the first that is not kept.
func ahead(keep []bool) int {
	for k, on := range keep {
		if !on {
			return k
		}
	}
	return len(keep)
}

// shapes tells all rings and pers that a journal may have.
func shapes() [][2]int {
	var all [][2]int
	for ring := 2; ring <= 6; ring++ {
		for per := 2; per <= 16; per++ {
			all = append(all, [2]int{ring, per})
		}
	}
	return all
}

// wrongShapes have products of every kind, small and wrapped round ones too.
func wrongShapes() [][2]int {
	strange := []int{math.MinInt, -1 << 32, -4, -2, -1, 0, 1, 17, 1 << 8, 1<<8 + 2, 1 << 32, 1<<32 + 2, 1 << 62, math.MaxInt}
	var all [][2]int
	for _, n := range strange {
		all = append(all, [2]int{n, 2}, [2]int{2, n}, [2]int{n, n}, [2]int{n, -n})
	}
	return append(all, [2]int{7, 2}, [2]int{7, 16}, [2]int{6, 17}, [2]int{1, 16}, [2]int{6, 1})
}

// text has other bytes for each number, and the length that is asked for.
func text(seed, length int) string {
	b := make([]byte, length)
	for k := range b {
		b[k] = byte(seed*31 + k*7 + seed>>8)
	}
	return string(b)
}
