package journal_test

import (
	"bytes"
	"math"
	"testing"

	"pact/api"
	"pact/disk"
	"pact/journal"
)

func TestP6AllShapes(t *testing.T) {
	for _, s := range shapes() {
		ring, per := s[0], s[1]
		for _, sectors := range []int{ring*per + 2, ring*per + 3, api.MaxSectors} {
			d := newDisk(t, sectors)
			j := create(t, d, ring, per)
			wantJournal(t, j, 1, 0, 1, "")
			var records []string
			for n := range ring * per {
				records = append(records, text(n, 1+n%40))
			}
			add(t, d, j, records...)
			wantJournal(t, j, 1, 0, 1, "", records...)
			if n, e := j.Append(nil); n != 0 || e != api.ErrFull {
				t.Fatalf("%d times %d: Append to a full journal = %d, %d", ring, per, n, e)
			}
			force(t, d, j, 1)
			d.Crash(nil)
			wantJournal(t, open(t, d, ring, per), 1, ring*per, 2, "", records...)
		}
	}
}

// wantRefused checks that neither Create nor Open takes this shape, and that both leave the disk alone.
func wantRefused(t *testing.T, d *disk.Disk, ring, per int) {
	t.Helper()
	was := imageOf(d)
	if j, e := journal.Create(d, ring, per); j != nil || e != api.ErrArg {
		t.Fatalf("Create(.., %d, %d) = %v, %d, want nil, ErrArg", ring, per, j, e)
	}
	if j, e := journal.Open(d, ring, per); j != nil || e != api.ErrArg {
		t.Fatalf("Open(.., %d, %d) = %v, %d, want nil, ErrArg", ring, per, j, e)
	}
	wantImage(t, d, was)
}

func TestP6WrongShapes(t *testing.T) {
	empty := newDisk(t, api.MaxSectors)
	used := newDisk(t, api.MaxSectors)
	j := create(t, used, 2, 2)
	add(t, used, j, "a", "b")
	for _, s := range wrongShapes() {
		wantRefused(t, empty, s[0], s[1])
		wantRefused(t, used, s[0], s[1])
	}
	wantJournal(t, j, 1, 0, 1, "", "a", "b")
}

func TestP6DiskTooSmall(t *testing.T) {
	for _, s := range shapes() {
		ring, per := s[0], s[1]
		for _, sectors := range []int{ring*per + 1, ring * per, 2, 1} {
			wantRefused(t, newDisk(t, sectors), ring, per)
		}
	}
}

// wantNothingOld goes through a whole ring of new records, with a crash behind each, so that an old one would be seen wherever it stands.
func wantNothingOld(t *testing.T, d *disk.Disk, ring, per int) {
	t.Helper()
	wantJournal(t, create(t, d, ring, per), 1, 0, 1, "")
	d.Crash(nil)
	j := open(t, d, ring, per)
	wantJournal(t, j, 1, 0, 2, "")
	var records []string
	for n := range ring * per {
		records = append(records, text(n, 9))
		add(t, d, j, records[n])
		force(t, d, j, n+1)
		d.Crash(nil)
		j = open(t, d, ring, per)
		wantJournal(t, j, 1, n+1, n+3, "", records...)
	}
}

func TestP6OverAnotherJournal(t *testing.T) {
	for _, old := range [][2]int{{2, 2}, {2, 3}, {3, 2}, {3, 4}, {4, 3}, {2, 6}} {
		for _, now := range [][2]int{{2, 2}, {2, 3}, {3, 2}, {3, 4}} {
			for laps := range 3 {
				d := newDisk(t, 16)
				j := create(t, d, old[0], old[1])
				for range laps {
					for range old[0] * old[1] {
						add(t, d, j, "old")
					}
					truncate(t, d, j, j.Next()-old[1], "old")
					truncate(t, d, j, j.Next(), "older")
				}
				add(t, d, j, "not", "durable")
				wantNothingOld(t, d, now[0], now[1])
			}
		}
	}
}

func TestP6OverAnyBytes(t *testing.T) {
	for c := range 256 {
		d := newDisk(t, 9)
		for i := range 9 {
			d.Write(i, bytes.Repeat([]byte{byte(c)}, api.Sector))
		}
		if c%2 == 0 {
			d.Sync()
		}
		wantNothingOld(t, d, 2, 3)
	}
}

// A disk may have the records of a journal without having been its disk.
func TestP6OverCopiedSectors(t *testing.T) {
	from, j := newJournal(t, 2, 3)
	add(t, from, j, "a", "b", "c", "d", "e", "f")
	for shift := range 8 {
		to := newDisk(t, 8)
		for i, b := range imageOf(from).sectors {
			to.Write((i+shift)%8, b)
		}
		wantNothingOld(t, to, 2, 3)
	}
}

func TestP7EveryLength(t *testing.T) {
	for length := range api.MaxRecord + 1 {
		d, j := newJournal(t, 2, 2)
		records := []string{text(length, length), text(length+1, length), "", text(length+2, length)}
		add(t, d, j, records...)
		wantJournal(t, j, 1, 0, 1, "", records...)
		force(t, d, j, 4)
		wantJournal(t, j, 1, 4, 1, "", records...)
		d.Crash(nil)
		wantJournal(t, open(t, d, 2, 2), 1, 4, 2, "", records...)
	}
}

func TestP7EveryByte(t *testing.T) {
	for c := range 256 {
		d, j := newJournal(t, 2, 2)
		s := string(bytes.Repeat([]byte{byte(c)}, api.MaxRecord))
		add(t, d, j, s, s[:1])
		wantJournal(t, j, 1, 0, 1, "", s, s[:1])
		wantJournal(t, open(t, d, 2, 2), 1, 2, 2, "", s, s[:1])
	}
}

func TestP7NilIsAnEmptyRecord(t *testing.T) {
	d, j := newJournal(t, 2, 2)
	if n, e := j.Append(nil); n != 1 || e != api.OK {
		t.Fatalf("Append(nil) = %d, %d", n, e)
	}
	wantJournal(t, j, 1, 0, 1, "", "")
	wantJournal(t, open(t, d, 2, 2), 1, 1, 2, "", "")
}

func TestP7TooLong(t *testing.T) {
	d, j := newJournal(t, 2, 2)
	add(t, d, j, "a")
	was := imageOf(d)
	long := []int{api.MaxRecord + 1, api.Sector, 255, 256, 256 + 1, 256 + api.MaxRecord, 1 << 16, 1 << 20}
	for _, length := range long {
		if n, e := j.Append(make([]byte, length)); n != 0 || e != api.ErrArg {
			t.Errorf("Append of %d bytes = %d, %d, want 0, ErrArg", length, n, e)
		}
	}
	wantImage(t, d, was)
	wantJournal(t, j, 1, 0, 1, "", "a")
	add(t, d, j, "b", "c", "d")
	was = imageOf(d)
	if n, e := j.Append(make([]byte, api.MaxRecord+1)); n != 0 || e != api.ErrArg {
		t.Errorf("Append of too much to a full journal = %d, %d, want 0, ErrArg", n, e)
	}
	wantImage(t, d, was)
}

func TestP7LengthNotCapacity(t *testing.T) {
	d, j := newJournal(t, 2, 2)
	roomy := make([]byte, 1000)
	if n, e := j.Append(roomy[:api.MaxRecord]); n != 1 || e != api.OK {
		t.Errorf("Append of a list with spare room = %d, %d", n, e)
	}
	truncate(t, d, j, 1, "")
	if e := j.Truncate(1, roomy[:1]); e != api.OK {
		t.Errorf("Truncate with a note with spare room = %d", e)
	}
}

// fill appends till the journal is full, and checks that it is full where the segments say so.
func fill(t *testing.T, d *disk.Disk, j *journal.Journal, ring, per int) {
	t.Helper()
	for (j.Next()-1)/per-(j.Low()-1)/per < ring {
		add(t, d, j, text(j.Next(), j.Next()%41))
	}
	was, next := imageOf(d), j.Next()
	for range 2 {
		if n, e := j.Append([]byte("more")); n != 0 || e != api.ErrFull {
			t.Fatalf("%d times %d, Low %d, Next %d: Append = %d, %d, want 0, ErrFull", ring, per, j.Low(), next, n, e)
		}
	}
	wantImage(t, d, was)
	if j.Next() != next {
		t.Fatalf("Next is %d behind a refused Append, want %d", j.Next(), next)
	}
}

// recordsFrom tells what fill has written.
func recordsFrom(low, next int) []string {
	var records []string
	for n := low; n < next; n++ {
		records = append(records, text(n, n%41))
	}
	return records
}

func TestP7FullFromEveryLow(t *testing.T) {
	for _, s := range [][2]int{{2, 2}, {2, 3}, {3, 2}, {3, 5}, {6, 2}, {2, 16}} {
		ring, per := s[0], s[1]
		for low := 1; low <= ring*per+1; low++ {
			d, j := newJournal(t, ring, per)
			fill(t, d, j, ring, per)
			truncate(t, d, j, low, "")
			fill(t, d, j, ring, per)
			next := j.Next()
			wantJournal(t, j, low, ring*per, 1, "", recordsFrom(low, next)...)
			j = open(t, d, ring, per)
			wantJournal(t, j, low, next-1, 2, "", recordsFrom(low, next)...)
			fill(t, d, j, ring, per)
		}
	}
}

func TestP7ManyLaps(t *testing.T) {
	for _, s := range [][2]int{{2, 2}, {3, 3}, {6, 16}} {
		ring, per := s[0], s[1]
		d, j := newJournal(t, ring, per)
		epoch := 1
		for lap := 1; j.Next() < 3000; lap++ {
			fill(t, d, j, ring, per)
			next := j.Next()
			low := min(j.Low()+1+lap*5%(ring*per), next)
			truncate(t, d, j, low, "")
			if lap%3 == 0 {
				j = open(t, d, ring, per)
				epoch++
			}
			wantJournal(t, j, low, next-1, epoch, "", recordsFrom(low, next)...)
		}
	}
}

func TestP7GreatNumbers(t *testing.T) {
	d, j := newJournal(t, 6, 16)
	for range 900 {
		fill(t, d, j, 6, 16)
		truncate(t, d, j, j.Next()-8, "n")
	}
	low, next := j.Low(), j.Next()
	if next <= 1<<16 {
		t.Fatalf("Next is %d: too small for this test", next)
	}
	d.Crash(nil)
	wantJournal(t, open(t, d, 6, 16), low, next-1, 2, "n", recordsFrom(low, next)...)
}

func TestP8Force(t *testing.T) {
	for n := range 5 {
		for durable := range 5 {
			d, j := newJournal(t, 2, 3)
			records := []string{"a", "b", "c", "d"}
			add(t, d, j, records[:durable]...)
			force(t, d, j, durable)
			add(t, d, j, records[durable:]...)
			force(t, d, j, n)
			left := durable
			if n > durable {
				left = 4
			}
			wantJournal(t, j, 1, left, 1, "", records...)
			d.Crash(nil)
			wantJournal(t, open(t, d, 2, 3), 1, left, 2, "", records[:left]...)
		}
	}
}

func TestP8BelowLow(t *testing.T) {
	d, j := newJournal(t, 2, 2)
	force(t, d, j, 0)
	add(t, d, j, "a", "b", "c")
	truncate(t, d, j, 3, "")
	add(t, d, j, "d")
	for n := range 4 {
		force(t, d, j, n)
	}
	wantJournal(t, j, 3, 3, 1, "", "c", "d")
	force(t, d, j, 4)
	wantJournal(t, j, 3, 4, 1, "", "c", "d")
}

func TestP8Wrong(t *testing.T) {
	d, j := newJournal(t, 2, 2)
	for _, n := range []int{-1, 1, 2, math.MinInt, math.MaxInt} {
		if e := j.Force(n); e != api.ErrArg {
			t.Errorf("Force(%d) of an empty journal = %d, want ErrArg", n, e)
		}
	}
	add(t, d, j, "a", "b")
	was := imageOf(d)
	for _, n := range []int{-1, 3, 4, 1 << 32, 1<<32 + 1, math.MinInt, math.MaxInt} {
		if e := j.Force(n); e != api.ErrArg {
			t.Errorf("Force(%d) = %d, want ErrArg", n, e)
		}
	}
	wantImage(t, d, was)
	wantJournal(t, j, 1, 0, 1, "", "a", "b")
}

func TestP9EveryLow(t *testing.T) {
	records := []string{"a", "b", "c", "d", "e"}
	for first := 1; first <= 6; first++ {
		for second := first; second <= 6; second++ {
			d, j := newJournal(t, 2, 3)
			add(t, d, j, records...)
			truncate(t, d, j, first, "one")
			wantJournal(t, j, first, 5, 1, "one", records[first-1:]...)
			truncate(t, d, j, second, "two")
			wantJournal(t, j, second, 5, 1, "two", records[second-1:]...)
			d.Crash(nil)
			wantJournal(t, open(t, d, 2, 3), second, 5, 2, "two", records[second-1:]...)
		}
	}
}

func TestP9EveryNote(t *testing.T) {
	d, j := newJournal(t, 2, 2)
	for length := range api.MaxRecord + 1 {
		note := text(length, length)
		truncate(t, d, j, 1, note)
		wantJournal(t, j, 1, 0, 1+length, note)
		d.Crash(nil)
		j = open(t, d, 2, 2)
		wantJournal(t, j, 1, 0, 2+length, note)
	}
	if e := j.Truncate(1, nil); e != api.OK {
		t.Fatalf("Truncate(1, nil) = %d", e)
	}
	wantJournal(t, j, 1, 0, j.Epoch(), "")
	d.Crash(nil)
	wantJournal(t, open(t, d, 2, 2), 1, 0, j.Epoch()+1, "")
}

func TestP9MakesAllDurable(t *testing.T) {
	d, j := newJournal(t, 2, 2)
	add(t, d, j, "a")
	force(t, d, j, 1)
	add(t, d, j, "b", "c")
	truncate(t, d, j, 1, "n")
	wantJournal(t, j, 1, 3, 1, "n", "a", "b", "c")
	add(t, d, j, "d")
	wantJournal(t, j, 1, 3, 1, "n", "a", "b", "c", "d")
	d.Crash(nil)
	wantJournal(t, open(t, d, 2, 2), 1, 3, 2, "n", "a", "b", "c")
}

func TestP9Wrong(t *testing.T) {
	d, j := newJournal(t, 2, 3)
	add(t, d, j, "a", "b", "c")
	truncate(t, d, j, 2, "n")
	add(t, d, j, "d")
	was := imageOf(d)
	for _, low := range []int{math.MinInt, -1, 0, 1, 6, 7, 1 << 32, 1<<32 + 3, math.MaxInt} {
		for _, note := range []int{0, 3, api.MaxRecord + 1} {
			if e := j.Truncate(low, make([]byte, note)); e != api.ErrArg {
				t.Errorf("Truncate(%d, %d bytes) = %d, want ErrArg", low, note, e)
			}
		}
	}
	for _, note := range []int{api.MaxRecord + 1, api.Sector, 256, 256 + 1, 1 << 20} {
		if e := j.Truncate(3, make([]byte, note)); e != api.ErrArg {
			t.Errorf("Truncate(3, %d bytes) = %d, want ErrArg", note, e)
		}
	}
	wantImage(t, d, was)
	wantJournal(t, j, 2, 3, 1, "n", "b", "c", "d")
	d.Crash(nil)
	wantJournal(t, open(t, d, 2, 3), 2, 3, 2, "n", "b", "c")
}
