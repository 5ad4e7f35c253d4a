package disk_test

import (
	"bytes"
	"math"
	"math/rand"
	"testing"

	"pact/api"
	"pact/disk"
)

func newDisk(t *testing.T, sectors int) *disk.Disk {
	t.Helper()
	d, e := disk.New(sectors)
	if e != api.OK || d == nil {
		t.Fatalf("New(%d) = %v, %d", sectors, d, e)
	}
	return d
}

// pattern has other bytes at each place and for each seed, so that a shifted or cut copy is seen. Seed 0 is all 0.
func pattern(seed int) []byte {
	b := make([]byte, api.Sector)
	for i := range b {
		b[i] = byte(seed * (2*i + 1))
	}
	return b
}

func mustWrite(t *testing.T, d *disk.Disk, i int, seed int) {
	t.Helper()
	if e := d.Write(i, pattern(seed)); e != api.OK {
		t.Fatalf("Write(%d, ..) = %d", i, e)
	}
}

func mustRead(t *testing.T, d *disk.Disk, i int) []byte {
	t.Helper()
	b, e := d.Read(i)
	if e != api.OK {
		t.Fatalf("Read(%d) = %d", i, e)
	}
	return b
}

// wantSectors checks all sectors of a disk, and that it has no other ones.
func wantSectors(t *testing.T, d *disk.Disk, seeds ...int) {
	t.Helper()
	for i, seed := range seeds {
		if b := mustRead(t, d, i); !bytes.Equal(b, pattern(seed)) {
			t.Errorf("sector %d is %v, want pattern %d", i, b, seed)
		}
	}
	wantNoSector(t, d, -1)
	wantNoSector(t, d, len(seeds))
}

func wantNoSector(t *testing.T, d *disk.Disk, i int) {
	t.Helper()
	if b, e := d.Read(i); b != nil || e != api.ErrArg {
		t.Errorf("Read(%d) = %v, %d, want nil, ErrArg", i, b, e)
	}
}

func wantCounts(t *testing.T, d *disk.Disk, pending int, syncs int) {
	t.Helper()
	if d.Pending() != pending || d.Syncs() != syncs {
		t.Errorf("Pending, Syncs = %d, %d, want %d, %d", d.Pending(), d.Syncs(), pending, syncs)
	}
}

// keeps tells all lists of bools of a length.
func keeps(length int) [][]bool {
	var all [][]bool
	for bits := range 1 << length {
		keep := make([]bool, length)
		for k := range keep {
			keep[k] = bits>>k&1 == 1
		}
		all = append(all, keep)
	}
	return all
}

func TestP2RightSizes(t *testing.T) {
	for _, n := range []int{1, 2, 3, api.MaxSectors - 1, api.MaxSectors} {
		d := newDisk(t, n)
		wantCounts(t, d, 0, 0)
		wantSectors(t, d, make([]int, n)...)
	}
}

func TestP2WrongSizes(t *testing.T) {
	wrong := []int{
		0, -1, -api.MaxSectors, api.MaxSectors + 1, 1 << 20, 1 << 32, 1<<32 + 1, math.MaxInt, math.MinInt,
	}
	for _, n := range wrong {
		if d, e := disk.New(n); d != nil || e != api.ErrArg {
			t.Errorf("New(%d) = %v, %d, want nil, ErrArg", n, d, e)
		}
	}
}

func TestP3WriteThenRead(t *testing.T) {
	d := newDisk(t, 4)
	mustWrite(t, d, 0, 1)
	wantSectors(t, d, 1, 0, 0, 0)
	mustWrite(t, d, 3, 2)
	wantSectors(t, d, 1, 0, 0, 2)
	mustWrite(t, d, 0, 3)
	wantSectors(t, d, 3, 0, 0, 2)
	mustWrite(t, d, 0, 0)
	wantSectors(t, d, 0, 0, 0, 2)
}

func TestP3FirstAndLastSector(t *testing.T) {
	for _, n := range []int{1, 2, api.MaxSectors} {
		d := newDisk(t, n)
		seeds := make([]int, n)
		for k, i := range []int{0, n - 1} {
			mustWrite(t, d, i, k+1)
			seeds[i] = k + 1
			wantSectors(t, d, seeds...)
		}
		d.Sync()
		wantSectors(t, d, seeds...)
	}
}

func TestP3EverySector(t *testing.T) {
	d := newDisk(t, api.MaxSectors)
	seeds := make([]int, api.MaxSectors)
	for i := range seeds {
		seeds[i] = i + 1
		mustWrite(t, d, i, seeds[i])
	}
	wantSectors(t, d, seeds...)
	d.Sync()
	wantSectors(t, d, seeds...)
}

func TestP3ReadBeforeAndBehindSync(t *testing.T) {
	d := newDisk(t, 2)
	mustWrite(t, d, 0, 1)
	d.Sync()
	mustWrite(t, d, 0, 2)
	wantSectors(t, d, 2, 0)
	mustWrite(t, d, 1, 3)
	wantSectors(t, d, 2, 3)
	d.Sync()
	wantSectors(t, d, 2, 3)
}

// busyDisk has two durable sectors and one write that is not, so that any change is seen.
func busyDisk(t *testing.T) *disk.Disk {
	d := newDisk(t, 3)
	mustWrite(t, d, 0, 1)
	mustWrite(t, d, 1, 2)
	d.Sync()
	mustWrite(t, d, 0, 3)
	return d
}

// wantBusyUntouched looks behind a crash too: a wrong write must not have become a pending one.
func wantBusyUntouched(t *testing.T, d *disk.Disk) {
	t.Helper()
	wantSectors(t, d, 3, 2, 0)
	wantCounts(t, d, 1, 1)
	d.Crash([]bool{false, true, true})
	wantSectors(t, d, 1, 2, 0)
}

func TestP3NoSuchSector(t *testing.T) {
	for _, i := range []int{-1, -3, 3, 4, api.MaxSectors, 1 << 32, 1<<32 + 1, math.MaxInt, math.MinInt} {
		d := busyDisk(t)
		wantNoSector(t, d, i)
		for _, b := range [][]byte{pattern(9), nil, pattern(9)[1:]} {
			if e := d.Write(i, b); e != api.ErrArg {
				t.Errorf("Write(%d, %d bytes) = %d, want ErrArg", i, len(b), e)
			}
		}
		wantBusyUntouched(t, d)
	}
}

func TestP3WrongLength(t *testing.T) {
	for _, n := range []int{0, 1, api.Sector - 1, api.Sector + 1, 2 * api.Sector, 1 << 20} {
		d := busyDisk(t)
		for i := range 3 {
			if e := d.Write(i, bytes.Repeat([]byte{9}, n)); e != api.ErrArg {
				t.Errorf("Write(%d, %d bytes) = %d, want ErrArg", i, n, e)
			}
		}
		wantBusyUntouched(t, d)
	}
	d := busyDisk(t)
	if e := d.Write(0, nil); e != api.ErrArg {
		t.Errorf("Write(0, nil) = %d, want ErrArg", e)
	}
	wantBusyUntouched(t, d)
}

func TestP3LengthNotCapacity(t *testing.T) {
	d := busyDisk(t)
	roomy := make([]byte, 4*api.Sector)
	if e := d.Write(0, roomy[:api.Sector-1]); e != api.ErrArg {
		t.Errorf("Write of a short list with spare room = %d, want ErrArg", e)
	}
	wantBusyUntouched(t, d)
	if e := d.Write(2, append(roomy[:0], pattern(5)...)); e != api.OK {
		t.Errorf("Write of a list of Sector bytes with spare room = %d", e)
	}
	wantSectors(t, d, 1, 2, 5)
}

func TestP4Counts(t *testing.T) {
	d := newDisk(t, 2)
	mustWrite(t, d, 0, 1)
	wantCounts(t, d, 1, 0)
	mustWrite(t, d, 0, 1)
	wantCounts(t, d, 2, 0)
	mustWrite(t, d, 1, 2)
	mustRead(t, d, 1)
	wantCounts(t, d, 3, 0)
	d.Sync()
	wantCounts(t, d, 0, 1)
	d.Sync()
	wantCounts(t, d, 0, 2)
	mustWrite(t, d, 1, 2)
	wantCounts(t, d, 1, 2)
	d.Crash([]bool{true})
	wantCounts(t, d, 0, 2)
	d.Sync()
	wantCounts(t, d, 0, 3)
}

func TestP4SyncMakesDurable(t *testing.T) {
	d := newDisk(t, 3)
	mustWrite(t, d, 0, 1)
	mustWrite(t, d, 2, 2)
	mustWrite(t, d, 0, 3)
	d.Sync()
	mustWrite(t, d, 2, 4)
	mustWrite(t, d, 1, 5)
	wantSectors(t, d, 3, 5, 4)
	d.Crash(nil)
	wantSectors(t, d, 3, 0, 2)
}

func TestP4ManyWrites(t *testing.T) {
	d := newDisk(t, api.MaxSectors)
	const many = 20000
	for k := range many {
		mustWrite(t, d, k%api.MaxSectors, k)
	}
	wantCounts(t, d, many, 0)
	keep := make([]bool, many)
	keep[many-1] = true
	d.Crash(keep)
	seeds := make([]int, api.MaxSectors)
	seeds[(many-1)%api.MaxSectors] = many - 1
	wantSectors(t, d, seeds...)
	wantCounts(t, d, 0, 0)
}

// crashed tells what a crash leaves of writes to the sectors at, the k-th of them with the seed k + 10.
func crashed(before []int, at []int, keep []bool) []int {
	after := append([]int(nil), before...)
	for k, i := range at {
		if k < len(keep) && keep[k] {
			after[i] = k + 10
		}
	}
	return after
}

func TestP5AllSmallCrashes(t *testing.T) {
	before := []int{1, 2}
	for writes := range 5 {
		for _, second := range keeps(writes) {
			at := make([]int, writes)
			for k := range at {
				if second[k] {
					at[k] = 1
				}
			}
			for length := range writes + 3 {
				for _, keep := range keeps(length) {
					tryCrash(t, before, at, keep)
				}
			}
			tryCrash(t, before, at, nil)
		}
	}
}

func tryCrash(t *testing.T, before []int, at []int, keep []bool) {
	t.Helper()
	d := newDisk(t, len(before))
	for i, seed := range before {
		mustWrite(t, d, i, seed)
	}
	d.Sync()
	for k, i := range at {
		mustWrite(t, d, i, k+10)
	}
	want := crashed(before, at, keep)
	d.Crash(keep)
	wantSectors(t, d, want...)
	wantCounts(t, d, 0, 1)
	// All that is left is durable, and what was lost stays lost.
	d.Crash([]bool{true, true, true, true, true, true})
	wantSectors(t, d, want...)
	d.Sync()
	wantSectors(t, d, want...)
	if t.Failed() {
		t.Fatalf("behind writes to %v and Crash(%v)", at, keep)
	}
}

func TestP5LostWriteUncoversTheOneAhead(t *testing.T) {
	d := newDisk(t, 1)
	mustWrite(t, d, 0, 1)
	mustWrite(t, d, 0, 2)
	mustWrite(t, d, 0, 3)
	d.Crash([]bool{true, true, false})
	wantSectors(t, d, 2)
}

func TestP5CountsOnlyWritesBehindTheSync(t *testing.T) {
	d := newDisk(t, 2)
	mustWrite(t, d, 0, 1)
	mustWrite(t, d, 1, 2)
	d.Sync()
	mustWrite(t, d, 0, 3)
	mustWrite(t, d, 1, 4)
	d.Crash([]bool{true})
	wantSectors(t, d, 3, 2)
	mustWrite(t, d, 0, 5)
	mustWrite(t, d, 1, 6)
	d.Crash([]bool{false, true})
	wantSectors(t, d, 3, 6)
}

func TestP5WrongWriteTakesNoPlaceInKeep(t *testing.T) {
	d := newDisk(t, 2)
	d.Write(0, pattern(8)[1:])
	mustWrite(t, d, 0, 1)
	d.Write(2, pattern(9))
	mustWrite(t, d, 1, 2)
	d.Crash([]bool{false, true, true, true})
	wantSectors(t, d, 0, 2)
}

func TestP5SpareRoomOfKeepIsNotAsked(t *testing.T) {
	d := newDisk(t, 2)
	mustWrite(t, d, 0, 1)
	mustWrite(t, d, 1, 2)
	d.Crash([]bool{true, true}[:1])
	wantSectors(t, d, 1, 0)
}

func TestP5FreshDisk(t *testing.T) {
	for _, keep := range [][]bool{nil, {}, {true}, {false, true}} {
		d := newDisk(t, 2)
		d.Crash(keep)
		wantSectors(t, d, 0, 0)
		wantCounts(t, d, 0, 0)
	}
}

func TestP1HandedInBytesAreNotKept(t *testing.T) {
	endings := []func(d *disk.Disk){
		func(d *disk.Disk) {},
		func(d *disk.Disk) { d.Sync() },
		func(d *disk.Disk) { d.Crash([]bool{true, true}) },
	}
	for _, end := range endings {
		d := newDisk(t, 2)
		b := pattern(1)
		d.Write(0, b)
		// The same list again with other bytes, as a caller with one buffer does it.
		copy(b, pattern(2))
		d.Write(1, b)
		clear(b)
		wantSectors(t, d, 1, 2)
		end(d)
		copy(b, pattern(3))
		wantSectors(t, d, 1, 2)
	}
}

func TestP1HandedInBytesAreNotWrittenInto(t *testing.T) {
	d := newDisk(t, 1)
	whole := append(pattern(1), pattern(2)...)
	before := bytes.Clone(whole)
	d.Write(0, whole[:api.Sector])
	d.Write(0, whole[:api.Sector-1])
	d.Write(5, whole[:api.Sector])
	mustWrite(t, d, 0, 3)
	d.Sync()
	mustWrite(t, d, 0, 4)
	d.Crash([]bool{true})
	if !bytes.Equal(whole, before) {
		t.Errorf("what was handed to Write, or stands behind it, was written into")
	}
}

func TestP1KeepIsNeitherWrittenIntoNorKept(t *testing.T) {
	d := newDisk(t, 2)
	mustWrite(t, d, 0, 1)
	mustWrite(t, d, 1, 2)
	mustWrite(t, d, 1, 3)
	whole := []bool{true, false, true, false}
	d.Crash(whole[:2])
	for k, on := range whole {
		if on != (k%2 == 0) {
			t.Errorf("keep[%d] was written into", k)
		}
	}
	for k := range whole {
		whole[k] = true
	}
	wantSectors(t, d, 1, 0)
	mustWrite(t, d, 1, 4)
	d.Crash(nil)
	wantSectors(t, d, 1, 0)
}

// scribble writes into a list and into all of its spare room.
func scribble(b []byte) {
	b = b[:cap(b)]
	for i := range b {
		b[i] = 0xEE
	}
}

// scribbleAll writes into an answer of every sector, and then checks the sectors.
func scribbleAll(t *testing.T, d *disk.Disk, seeds ...int) {
	t.Helper()
	for i := range seeds {
		scribble(mustRead(t, d, i))
	}
	wantSectors(t, d, seeds...)
}

func TestP1WhatComesOutIsTheCallers(t *testing.T) {
	d := newDisk(t, 3)
	scribbleAll(t, d, 0, 0, 0)
	mustWrite(t, d, 1, 1)
	d.Sync()
	mustWrite(t, d, 2, 9)
	mustWrite(t, d, 2, 2)
	held := mustRead(t, d, 2)
	scribbleAll(t, d, 0, 1, 2)
	d.Crash([]bool{false, true})
	scribbleAll(t, d, 0, 1, 2)
	mustWrite(t, d, 2, 5)
	d.Sync()
	scribbleAll(t, d, 0, 1, 5)
	if !bytes.Equal(held, pattern(2)) {
		t.Errorf("an answer was changed by later calls")
	}
}

func TestP1AnswersShareNothing(t *testing.T) {
	d := newDisk(t, 2)
	mustWrite(t, d, 0, 1)
	d.Sync()
	mustWrite(t, d, 1, 2)
	for i, seed := range []int{1, 2} {
		first, second := mustRead(t, d, i), mustRead(t, d, i)
		scribble(first)
		if !bytes.Equal(second, pattern(seed)) {
			t.Errorf("two answers of sector %d share memory", i)
		}
	}
}

// An answer may be handed in again and then be written into.
func TestP1AnswerHandedIn(t *testing.T) {
	d := newDisk(t, 2)
	mustWrite(t, d, 0, 1)
	b := mustRead(t, d, 0)
	d.Write(1, b)
	scribble(b)
	wantSectors(t, d, 1, 1)
	d.Sync()
	scribble(b)
	wantSectors(t, d, 1, 1)
}

// model says once more, as plainly as can be, what a disk is: all its writes, and which of them are durable.
type model struct {
	durable []int
	at      []int
	seed    []int
	syncs   int
}

func (m *model) settle(kept func(k int) bool) {
	for k, i := range m.at {
		if kept(k) {
			m.durable[i] = m.seed[k]
		}
	}
	m.at, m.seed = nil, nil
}

func (m *model) now() []int {
	now := append([]int(nil), m.durable...)
	for k, i := range m.at {
		now[i] = m.seed[k]
	}
	return now
}

// step does one drawn thing to a disk and to its model.
func step(t *testing.T, r *rand.Rand, d *disk.Disk, m *model) {
	t.Helper()
	switch r.Intn(8) {
	case 0:
		d.Sync()
		m.syncs++
		m.settle(func(int) bool { return true })
	case 1:
		keep := make([]bool, r.Intn(8))
		for k := range keep {
			keep[k] = r.Intn(2) == 0
		}
		d.Crash(keep)
		m.settle(func(k int) bool { return k < len(keep) && keep[k] })
	case 2:
		d.Write(len(m.durable)+r.Intn(3), pattern(r.Intn(256)))
		d.Write(r.Intn(len(m.durable)), make([]byte, r.Intn(api.Sector)))
	default:
		i, seed := r.Intn(len(m.durable)), r.Intn(256)
		mustWrite(t, d, i, seed)
		m.at, m.seed = append(m.at, i), append(m.seed, seed)
	}
}

func TestP1DisksHaveNothingToDoWithOneAnother(t *testing.T) {
	r := rand.New(rand.NewSource(7))
	sizes := []int{1, 3, 3, 5}
	var disks []*disk.Disk
	var models []*model
	for _, n := range sizes {
		disks = append(disks, newDisk(t, n))
		models = append(models, &model{durable: make([]int, n)})
	}
	for range 3000 {
		one := r.Intn(len(disks))
		step(t, r, disks[one], models[one])
		for k, d := range disks {
			wantSectors(t, d, models[k].now()...)
			wantCounts(t, d, len(models[k].at), models[k].syncs)
		}
		if t.Failed() {
			t.Fatalf("behind a step of disk %d", one)
		}
	}
}
