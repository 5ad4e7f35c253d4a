package journal_test

import (
	"bytes"
	"testing"

	"pact/api"
	"pact/disk"
	"pact/journal"
)

func wantBroken(t *testing.T, d *disk.Disk, ring, per int) {
	t.Helper()
	was := imageOf(d)
	if j, e := journal.Open(d, ring, per); j != nil || e != api.ErrBroken {
		t.Fatalf("Open(.., %d, %d) = %v, %d, want nil, ErrBroken", ring, per, j, e)
	}
	wantImage(t, d, was)
}

func TestP10NeverCreated(t *testing.T) {
	for _, s := range shapes() {
		wantBroken(t, newDisk(t, s[0]*s[1]+2), s[0], s[1])
		wantBroken(t, newDisk(t, api.MaxSectors), s[0], s[1])
	}
}

func TestP10RefusedCreateMakesNone(t *testing.T) {
	d := newDisk(t, 6)
	journal.Create(d, 2, 3)
	journal.Create(d, 1, 2)
	wantBroken(t, d, 2, 2)
}

func TestP10AnotherShape(t *testing.T) {
	d := newDisk(t, api.MaxSectors)
	for _, s := range shapes() {
		j := create(t, d, s[0], s[1])
		add(t, d, j, "a", "b")
		for _, other := range shapes() {
			if other != s {
				wantBroken(t, d, other[0], other[1])
			}
		}
		wantJournal(t, j, 1, 0, 1, "", "a", "b")
		wantJournal(t, open(t, d, s[0], s[1]), 1, 2, 2, "", "a", "b")
	}
}

func TestP10LastCreated(t *testing.T) {
	d := newDisk(t, 14)
	create(t, d, 3, 4)
	create(t, d, 4, 3)
	wantBroken(t, d, 3, 4)
	j := create(t, d, 3, 4)
	wantBroken(t, d, 4, 3)
	wantJournal(t, j, 1, 0, 1, "")
	wantJournal(t, open(t, d, 3, 4), 1, 0, 2, "")
}

func TestP10AsItWasLeft(t *testing.T) {
	d, j := newJournal(t, 2, 3)
	add(t, d, j, "a", "b")
	force(t, d, j, 2)
	add(t, d, j, "c")
	j = open(t, d, 2, 3)
	wantJournal(t, j, 1, 3, 2, "", "a", "b", "c")
	d.Crash(nil)
	j = open(t, d, 2, 3)
	wantJournal(t, j, 1, 3, 3, "", "a", "b", "c")
	truncate(t, d, j, 2, "n")
	wantJournal(t, open(t, d, 2, 3), 2, 3, 4, "n", "b", "c")
}

func TestP10EpochsGoOn(t *testing.T) {
	d, _ := newJournal(t, 2, 2)
	for epoch := 2; epoch < 700; epoch++ {
		if epoch%2 == 0 {
			d.Crash([]bool{true})
		}
		wantJournal(t, open(t, d, 2, 2), 1, 0, epoch, "")
	}
	wantJournal(t, create(t, d, 2, 2), 1, 0, 1, "")
}

// prefilled is a journal whose next record stands anywhere in the ring, some laps on, with one durable record.
func prefilled(t *testing.T, ring, per, next int) (*disk.Disk, *journal.Journal) {
	t.Helper()
	d, j := newJournal(t, ring, per)
	for j.Next() < next {
		truncate(t, d, j, j.Next(), "note")
		add(t, d, j, text(j.Next(), 5))
	}
	force(t, d, j, next-1)
	return d, j
}

// wantGone appends other records, one by one, with a crash behind each: what was lost would be seen behind the one that comes ahead of it.
func wantGone(t *testing.T, d *disk.Disk, ring, per int, more int) {
	t.Helper()
	for range more {
		j := open(t, d, ring, per)
		next := j.Next()
		if _, e := j.Append([]byte("new")); e == api.ErrFull {
			return
		}
		force(t, d, j, next)
		d.Crash(nil)
		if j = open(t, d, ring, per); j.Next() != next+1 {
			t.Fatalf("Next is %d behind record %d: what was lost has come back", j.Next(), next)
		}
	}
}

func TestP10EveryCrash(t *testing.T) {
	const ring, per = 2, 3
	for next := 2; next <= 15; next++ {
		for appended := range 6 {
			for _, keep := range keeps(appended) {
				d, j := prefilled(t, ring, per, next)
				low, epoch := j.Low(), j.Epoch()
				records := []string{text(next-1, 5)}
				for k := range appended {
					s := text(100+k, 40-k)
					if _, e := j.Append([]byte(s)); e == api.OK {
						records = append(records, s)
					}
				}
				d.Crash(keep)
				left := min(1+ahead(keep), len(records))
				j = open(t, d, ring, per)
				wantJournal(t, j, low, low+left-1, epoch+1, "note", records[:left]...)
				d.Crash([]bool{true, true})
				wantGone(t, d, ring, per, 5)
			}
		}
	}
}

// What was lost must not come back where a Low takes the place of the records ahead of it.
func TestP10LostBehindANewLow(t *testing.T) {
	for _, keep := range keeps(5) {
		left := ahead(keep)
		for more := range 6 - left {
			d, j := newJournal(t, 2, 3)
			add(t, d, j, "a", "b", "c", "d", "e")
			d.Crash(keep)
			j = open(t, d, 2, 3)
			for range more {
				add(t, d, j, "new")
			}
			next := left + more + 1
			truncate(t, d, j, next, "")
			d.Crash(nil)
			wantJournal(t, open(t, d, 2, 3), next, next-1, 3, "")
			wantGone(t, d, 2, 3, 6)
		}
	}
}

func TestP10LostInALaterCrash(t *testing.T) {
	for _, first := range keeps(4) {
		for _, second := range keeps(3) {
			d, j := newJournal(t, 2, 4)
			add(t, d, j, "a", "b", "c", "d")
			d.Crash(first)
			j = open(t, d, 2, 4)
			records := []string{"a", "b", "c", "d"}[:ahead(first)]
			add(t, d, j, "A", "B", "C")
			d.Crash(second)
			records = append(records[:len(records):len(records)], []string{"A", "B", "C"}[:ahead(second)]...)
			wantJournal(t, open(t, d, 2, 4), 1, len(records), 3, "", records...)
			wantGone(t, d, 2, 4, 8)
		}
	}
}

func TestP10OpenIsDurable(t *testing.T) {
	d, j := newJournal(t, 2, 2)
	add(t, d, j, "a", "b", "c")
	d.Crash([]bool{true, false, true})
	for epoch := 2; epoch < 6; epoch++ {
		wantJournal(t, open(t, d, 2, 2), 1, 1, epoch, "", "a")
		d.Crash(nil)
	}
}

func TestP10CopiedDisk(t *testing.T) {
	for _, sectors := range []int{8, 9, 20, api.MaxSectors} {
		for _, dirty := range []bool{false, true} {
			d, j := newJournal(t, 2, 3)
			add(t, d, j, "a", "b", "c", "d")
			truncate(t, d, j, 3, "n")
			add(t, d, j, "e")
			c := newDisk(t, sectors)
			if dirty {
				old := create(t, c, 2, 3)
				add(t, c, old, "1", "2", "3", "4", "5", "6")
				truncate(t, c, old, 2, "old")
			}
			copySectors(t, d, c)
			if dirty {
				c.Sync()
			}
			add(t, d, j, "f")
			i := open(t, c, 2, 3)
			wantJournal(t, i, 3, 5, 2, "n", "c", "d", "e")
			truncate(t, c, i, 6, "m")
			wantJournal(t, j, 3, 4, 1, "n", "c", "d", "e", "f")
			wantJournal(t, open(t, d, 2, 3), 3, 6, 2, "n", "c", "d", "e", "f")
		}
	}
}

// A copy from the midst of a crash has the same holes.
func TestP10CopiedBehindACrash(t *testing.T) {
	for _, keep := range keeps(4) {
		d, j := newJournal(t, 2, 3)
		add(t, d, j, "a", "b", "c", "d")
		d.Crash(keep)
		c := newDisk(t, 8)
		copySectors(t, d, c)
		left := ahead(keep)
		records := []string{"a", "b", "c", "d"}[:left]
		wantJournal(t, open(t, c, 2, 3), 1, left, 2, "", records...)
		wantGone(t, c, 2, 3, 6)
		wantJournal(t, open(t, d, 2, 3), 1, left, 2, "", records...)
	}
}

// Nothing is promised of such disks but that the calls end.
func TestP1StrangeSectors(t *testing.T) {
	for i := range 8 {
		for c := range 256 {
			for length := 1; length <= api.Sector; length++ {
				d, j := newJournal(t, 2, 3)
				add(t, d, j, "a", "b", "c")
				b, _ := d.Read(i)
				copy(b, bytes.Repeat([]byte{byte(c)}, length))
				d.Write(i, b)
				useAnyhow(d)
			}
		}
	}
}

func useAnyhow(d *disk.Disk) {
	j, e := journal.Open(d, 2, 3)
	if e != api.OK {
		return
	}
	for range 8 {
		j.Append([]byte("x"))
		j.Read(j.Low())
		j.Read(j.Next() - 1)
	}
	j.Force(j.Next() - 1)
	j.Truncate(j.Next(), j.Note())
	journal.Open(d, 2, 3)
}
