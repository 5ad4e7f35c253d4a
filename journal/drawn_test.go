package journal_test

import (
	"bytes"
	"math/rand"
	"testing"

	"pact/api"
	"pact/disk"
	"pact/journal"
)

func TestP1HandedInBytesAreNotKept(t *testing.T) {
	d, j := newJournal(t, 2, 2)
	b := []byte("aaaa")
	j.Append(b)
	copy(b, "bbbb")
	j.Append(b)
	copy(b, "cccc")
	wantJournal(t, j, 1, 0, 1, "", "aaaa", "bbbb")
	j.Truncate(1, b)
	copy(b, "dddd")
	wantJournal(t, j, 1, 2, 1, "cccc", "aaaa", "bbbb")
	wantJournal(t, open(t, d, 2, 2), 1, 2, 2, "cccc", "aaaa", "bbbb")
}

func TestP1HandedInBytesAreNotWrittenInto(t *testing.T) {
	d, j := newJournal(t, 2, 2)
	whole := bytes.Repeat([]byte("abcdefgh"), 20)
	before := bytes.Clone(whole)
	for range 5 {
		j.Append(whole[:3])
		j.Append(whole[:api.MaxRecord+1])
	}
	j.Truncate(2, whole[:3])
	j.Truncate(2, whole[:api.MaxRecord+1])
	j.Append(whole[:0])
	open(t, d, 2, 2)
	if !bytes.Equal(whole, before) {
		t.Errorf("what was handed in, or stands behind it, was written into")
	}
}

// scribble writes into a list and into all of its spare room.
func scribble(b []byte) {
	b = b[:cap(b)]
	for i := range b {
		b[i] = 0xEE
	}
}

func scribbleAll(j *journal.Journal) {
	scribble(j.Note())
	for n := j.Low(); n < j.Next(); n++ {
		b, _ := j.Read(n)
		scribble(b)
	}
}

func TestP1WhatComesOutIsTheCallers(t *testing.T) {
	d, j := newJournal(t, 2, 2)
	scribbleAll(j)
	add(t, d, j, "a", "bb")
	held, _ := j.Read(2)
	scribbleAll(j)
	wantJournal(t, j, 1, 0, 1, "", "a", "bb")
	truncate(t, d, j, 2, "note")
	add(t, d, j, "")
	note := j.Note()
	scribbleAll(j)
	wantJournal(t, j, 2, 2, 1, "note", "bb", "")
	j = open(t, d, 2, 2)
	scribbleAll(j)
	wantJournal(t, j, 2, 3, 2, "note", "bb", "")
	truncate(t, d, j, 4, "other")
	add(t, d, j, "e", "f")
	j = open(t, d, 2, 2)
	wantJournal(t, j, 4, 5, 3, "other", "e", "f")
	if string(held) != "bb" || string(note) != "note" {
		t.Errorf("answers were changed by later calls: %q, %q", held, note)
	}
}

// model says once more, as plainly as can be, what a journal is: all its records, and how many of them are durable.
type model struct {
	ring, per         int
	all               []string
	low, safe, epochs int
	note              string
}

func newModel(ring, per int) model {
	return model{ring: ring, per: per, low: 1, epochs: 1}
}

func (m *model) full() bool { return len(m.all)/m.per-(m.low-1)/m.per >= m.ring }

func (m *model) reopen(lost int) {
	m.all = m.all[:len(m.all)-lost]
	m.safe = len(m.all)
	m.epochs++
}

// pair is a disk with its journal, and what they should be.
type pair struct {
	d *disk.Disk
	j *journal.Journal
	m model
}

func newPair(t *testing.T, r *rand.Rand) *pair {
	t.Helper()
	ring, per := 2+r.Intn(3), 2+r.Intn(4)
	d := newDisk(t, 30+r.Intn(3))
	return &pair{d: d, j: create(t, d, ring, per), m: newModel(ring, per)}
}

func (p *pair) check(t *testing.T) {
	t.Helper()
	wantJournal(t, p.j, p.m.low, p.m.safe, p.m.epochs, p.m.note, p.m.all[p.m.low-1:]...)
}

func (p *pair) append(t *testing.T, r *rand.Rand) {
	t.Helper()
	s := text(r.Intn(1<<16), r.Intn(api.MaxRecord+3))
	n, e := p.j.Append([]byte(s))
	switch {
	case len(s) > api.MaxRecord:
		if n != 0 || e != api.ErrArg {
			t.Fatalf("Append of %d bytes = %d, %d", len(s), n, e)
		}
	case p.m.full():
		if n != 0 || e != api.ErrFull {
			t.Fatalf("Append = %d, %d, want 0, ErrFull", n, e)
		}
	default:
		p.m.all = append(p.m.all, s)
		if n != len(p.m.all) || e != api.OK {
			t.Fatalf("Append = %d, %d, want %d, OK", n, e, len(p.m.all))
		}
	}
}

func (p *pair) force(t *testing.T, r *rand.Rand) {
	t.Helper()
	n := r.Intn(len(p.m.all)+3) - 1
	e := p.j.Force(n)
	right := n >= 0 && n <= len(p.m.all)
	if right != (e == api.OK) {
		t.Fatalf("Force(%d) = %d", n, e)
	}
	if right && n > p.m.safe {
		p.m.safe = len(p.m.all)
	}
}

func (p *pair) truncate(t *testing.T, r *rand.Rand) {
	t.Helper()
	low := p.m.low - 1 + r.Intn(len(p.m.all)+4-p.m.low)
	note := text(r.Intn(1<<16), r.Intn(api.MaxRecord+2))
	e := p.j.Truncate(low, []byte(note))
	right := low >= p.m.low && low <= len(p.m.all)+1 && len(note) <= api.MaxRecord
	if right != (e == api.OK) {
		t.Fatalf("Truncate(%d, %d bytes) = %d", low, len(note), e)
	}
	if right {
		p.m.low, p.m.note, p.m.safe = low, note, len(p.m.all)
	}
}

func (p *pair) crash(t *testing.T, r *rand.Rand) {
	t.Helper()
	keep := make([]bool, r.Intn(8))
	for k := range keep {
		keep[k] = r.Intn(4) > 0
	}
	p.d.Crash(keep)
	pending := len(p.m.all) - p.m.safe
	p.m.reopen(pending - min(pending, ahead(keep)))
	p.j = open(t, p.d, p.m.ring, p.m.per)
}

// move goes on with a copy of the disk.
func (p *pair) move(t *testing.T, r *rand.Rand) {
	t.Helper()
	sectors := len(imageOf(p.d).sectors)
	c := newDisk(t, sectors+r.Intn(api.MaxSectors-sectors+1))
	if r.Intn(2) == 0 {
		old := create(t, c, p.m.ring, p.m.per)
		add(t, c, old, "old", "old", "old")
	}
	copySectors(t, p.d, c)
	p.d, p.j = c, open(t, c, p.m.ring, p.m.per)
	p.m.reopen(0)
}

func (p *pair) step(t *testing.T, r *rand.Rand) {
	t.Helper()
	switch k := r.Intn(60); {
	case k < 1:
		p.m = newModel(2+r.Intn(3), 2+r.Intn(4))
		p.j = create(t, p.d, p.m.ring, p.m.per)
	case k < 2:
		p.move(t, r)
	case k < 4:
		p.j = open(t, p.d, p.m.ring, p.m.per)
		p.m.reopen(0)
	case k < 10:
		p.crash(t, r)
	case k < 16:
		p.force(t, r)
	case k < 24:
		p.truncate(t, r)
	default:
		p.append(t, r)
	}
}

func TestP1JournalsHaveNothingToDoWithOneAnother(t *testing.T) {
	r := rand.New(rand.NewSource(3))
	for range 20 {
		var pairs []*pair
		for range 3 {
			pairs = append(pairs, newPair(t, r))
		}
		for range 2000 {
			pairs[r.Intn(len(pairs))].step(t, r)
			for _, p := range pairs {
				p.check(t)
			}
		}
	}
}
