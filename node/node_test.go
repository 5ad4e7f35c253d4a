package node

import (
	"bytes"
	"testing"

	"pact/api"
	"pact/record"
	"pact/set"
)

var variants = []int{api.Nothing, api.Abort, api.Commit}

func newNode(id, variant int) *Node {
	return New(id, api.Config{Nodes: 4, Variant: variant, Ring: 3, PerSegment: 8, Patience: 2})
}

func tx(coord, inc, seq int) api.Txn { return api.Txn{Coord: coord, Inc: inc, Seq: seq} }

// hear lets a node act on a message.
func hear(n *Node, kind, from int, t api.Txn) {
	n.Act(api.Message{Kind: kind, From: from, To: n.id, Txn: t})
}

// wantJournal: the records from Low on are just these, and all but the last so many are durable.
func wantJournal(t *testing.T, n *Node, low, lazy int, records ...record.Record) {
	t.Helper()
	j := n.journal
	if next := low + len(records); j.Low() != low || j.Next() != next || j.Durable() != next-1-lazy {
		t.Fatalf("Low, Next, Durable = %d, %d, %d, want %d, %d, %d", j.Low(), j.Next(), j.Durable(), low, next, next-1-lazy)
	}
	for k, r := range records {
		if b, _ := j.Read(low + k); !bytes.Equal(b, r.Pack()) {
			t.Fatalf("record %d is %v, want %+v", low+k, b, r)
		}
	}
}

func wantNote(t *testing.T, n *Node, marks record.Marks) {
	t.Helper()
	if !bytes.Equal(n.journal.Note(), marks.Pack()) {
		t.Fatalf("the note is %v, want %v", n.journal.Note(), marks)
	}
}

func TestP20RecordsOfACommit(t *testing.T) {
	for _, variant := range variants {
		n := newNode(3, variant)
		parts := set.Set(7)
		x, _, _ := n.Begin(parts)
		var want []record.Record
		if variant == api.Commit {
			want = append(want, record.Record{Kind: record.Init, Txn: x, Nodes: parts})
		}
		wantJournal(t, n, 1, 0, want...)
		hear(n, api.Yes, 1, x)
		hear(n, api.Yes, 0, x)
		wantJournal(t, n, 1, 0, want...)
		hear(n, api.Yes, 2, x)
		want = append(want, record.Record{Kind: record.Commit, Txn: x, Nodes: parts})
		wantJournal(t, n, 1, 0, want...)
		for _, from := range []int{2, 0, 1} {
			wantJournal(t, n, 1, 0, want...)
			hear(n, api.Ack, from, x)
		}
		lazy := 0
		if variant != api.Commit {
			want = append(want, record.Record{Kind: record.End, Txn: x})
			lazy = 1
		}
		wantJournal(t, n, 1, lazy, want...)
	}
}

// wantAbort: behind an abort for these nodes, the records are just these; then acks come.
func wantAbort(t *testing.T, n *Node, x api.Txn, parts, nodes set.Set) {
	t.Helper()
	var want []record.Record
	switch n.config.Variant {
	case api.Nothing:
		want = append(want, record.Record{Kind: record.Abort, Txn: x, Nodes: nodes})
	case api.Commit:
		want = append(want, record.Record{Kind: record.Init, Txn: x, Nodes: parts})
	}
	for _, from := range nodes.Members() {
		wantJournal(t, n, 1, 0, want...)
		hear(n, api.Ack, from, x)
	}
	if n.config.Variant == api.Abort {
		wantJournal(t, n, 1, 0)
		return
	}
	wantJournal(t, n, 1, 1, append(want, record.Record{Kind: record.End, Txn: x})...)
}

func TestP20RecordsOfANo(t *testing.T) {
	for _, variant := range variants {
		n := newNode(0, variant)
		x, _, _ := n.Begin(7)
		hear(n, api.Yes, 1, x)
		hear(n, api.No, 2, x)
		wantAbort(t, n, x, 7, 3)
	}
}

func TestP20RecordsOfAnAbortForNobody(t *testing.T) {
	for _, variant := range variants {
		n := newNode(0, variant)
		x, _, _ := n.Begin(8)
		hear(n, api.No, 3, x)
		wantAbort(t, n, x, 8, 0)
	}
}

func TestP21RecordsOfAnAbort(t *testing.T) {
	for _, variant := range variants {
		n := newNode(1, variant)
		x, _, _ := n.Begin(13)
		hear(n, api.Yes, 3, x)
		n.Tick()
		n.Tick()
		wantAbort(t, n, x, 13, 13)
	}
}

func TestP20RecordsOfAParticipant(t *testing.T) {
	for _, variant := range variants {
		for _, outcome := range []int{api.Committed, api.Aborted} {
			n := newNode(1, variant)
			x := tx(2, 5, 6)
			hear(n, api.Prepare, 2, x)
			yes := record.Record{Kind: record.Yes, Txn: x}
			wantJournal(t, n, 1, 0, yes)
			hear(n, api.Prepare, 2, x)
			wantJournal(t, n, 1, 0, yes)
			hear(n, order(outcome), 2, x)
			lazy := 1
			if variant == api.Nothing || (variant == api.Abort) == (outcome == api.Committed) {
				lazy = 0
			}
			done := record.Record{Kind: record.Done, Txn: x, Outcome: outcome}
			wantJournal(t, n, 1, lazy, yes, done)
			hear(n, order(outcome), 2, x)
			hear(n, api.Prepare, 2, x)
			wantJournal(t, n, 1, lazy, yes, done)
		}
	}
}

// Nothing that isn't waited for is heard, even if no node of the cluster would say it.
func TestP20WhatIsNotWaitedFor(t *testing.T) {
	for _, variant := range variants {
		n := newNode(0, variant)
		x, _, _ := n.Begin(6)
		hear(n, api.Yes, 1, x)
		want := api.Entry{Txn: x, Role: api.Coordinator, State: api.Preparing, Waits: 4}
		for kind := api.Yes; kind <= api.Ack; kind++ {
			for from := range 4 {
				if kind == api.Ack || kind <= api.No && from != 2 {
					n.Act(api.Message{Kind: kind, From: from, Txn: x})
					n.Act(api.Message{Kind: kind, From: 2, Txn: tx(0, 1, 2)})
				}
				if l := n.Table(); len(l) != 1 || l[0] != want {
					t.Fatalf("behind a message of kind %d from node %d the table is %+v", kind, from, l)
				}
			}
		}
	}
}

// A transaction that has its outcome hears no votes, and acks of those alone for which it waits.
func TestP20VotesBehindTheOutcome(t *testing.T) {
	for _, variant := range []int{api.Nothing, api.Commit} {
		n := newNode(0, variant)
		x, _, _ := n.Begin(14)
		hear(n, api.No, 1, x)
		for _, kind := range []int{api.Yes, api.No} {
			for from := range 4 {
				hear(n, kind, from, x)
			}
		}
		hear(n, api.Ack, 0, x)
		hear(n, api.Ack, 1, x)
		want := api.Entry{Txn: x, Role: api.Coordinator, State: api.Aborting, Waits: 12}
		if l := n.Table(); len(l) != 1 || l[0] != want {
			t.Fatalf("the table is %+v, want %+v", l, want)
		}
	}
}

func TestMarkingNotesAllMarks(t *testing.T) {
	n := newNode(1, api.Nothing)
	want := record.Marks{}
	hear(n, api.Prepare, 2, tx(2, 1, 4))
	want[2] = tx(2, 1, 4)
	if len(n.journal.Note()) != 0 {
		t.Errorf("a Yes was noted")
	}
	n.Refuse(true)
	hear(n, api.Prepare, 0, tx(0, 3, 1))
	want[0] = tx(0, 3, 1)
	wantNote(t, n, want)
	hear(n, api.DoAbort, 3, tx(3, 1, 7))
	want[3] = tx(3, 1, 7)
	wantNote(t, n, want)
	hear(n, api.DoCommit, 3, tx(3, 1, 7)) // marked already
	hear(n, api.DoAbort, 3, tx(3, 1, 6))
	wantNote(t, n, want)
	hear(n, api.DoCommit, 3, tx(3, 2, 1))
	want[3] = tx(3, 2, 1)
	wantNote(t, n, want)
	wantJournal(t, n, 1, 0, record.Record{Kind: record.Yes, Txn: tx(2, 1, 4)})
	if c := n.Costs(); c.Forced != 4 || c.Lazy != 0 {
		t.Errorf("the costs are %+v", c)
	}
}

// A marking makes durable what was written lazily.
func TestMarkingTruncates(t *testing.T) {
	n := newNode(1, api.Commit)
	x := tx(0, 1, 1)
	hear(n, api.Prepare, 0, x)
	hear(n, api.DoCommit, 0, x)
	yes, done := record.Record{Kind: record.Yes, Txn: x}, record.Record{Kind: record.Done, Txn: x, Outcome: api.Committed}
	wantJournal(t, n, 1, 1, yes, done)
	hear(n, api.DoAbort, 0, tx(0, 1, 2))
	wantJournal(t, n, 1, 0, yes, done)
	wantNote(t, n, record.Marks{tx(0, 1, 2)})
}

// fillTo lets others' transactions fill the journal up to a record, two by two.
func fillTo(t *testing.T, n *Node, next int) {
	t.Helper()
	for range (next - n.journal.Next()) / 2 {
		x := tx(3, 1, n.journal.Next())
		hear(n, api.Prepare, 3, x)
		hear(n, api.DoCommit, 3, x)
	}
	if n.journal.Next() != next {
		t.Fatalf("Next is %d, want %d", n.journal.Next(), next)
	}
}

func TestP22NothingIsNeeded(t *testing.T) {
	n := newNode(1, api.Abort)
	fillTo(t, n, 7)
	if n.journal.Low() != 1 || len(n.journal.Note()) != 0 {
		t.Errorf("Low is %d within the first segment", n.journal.Low())
	}
	fillTo(t, n, 9)
	wantJournal(t, n, 9, 0)
	wantNote(t, n, record.Marks{3: tx(3, 1, 7)})
	fillTo(t, n, 15)
	wantNote(t, n, record.Marks{3: tx(3, 1, 7)})
	fillTo(t, n, 17)
	wantJournal(t, n, 17, 0)
	wantNote(t, n, record.Marks{3: tx(3, 1, 15)})
	if c := n.Costs(); c.Forced != 16 || c.Lazy != 0 {
		t.Errorf("the costs are %+v: what a node does for its journal is no cost", c)
	}
}

// wantHeld: the journal is held at a record of the first segment; when it is let go, it goes up to Next.
func wantHeld(t *testing.T, n *Node, letGo func()) {
	t.Helper()
	for n.journal.Next() < 16 {
		fillTo(t, n, n.journal.Next()+2)
		if n.journal.Low() != 1 {
			t.Fatalf("Low is %d, with a record that is needed in the first segment", n.journal.Low())
		}
	}
	letGo()
	if n.journal.Low() != n.journal.Next() {
		t.Fatalf("Low is %d, and Next %d, where nothing is needed", n.journal.Low(), n.journal.Next())
	}
}

func TestP22AYesIsNeeded(t *testing.T) {
	n := newNode(1, api.Nothing)
	hear(n, api.Prepare, 2, tx(2, 1, 1))
	wantHeld(t, n, func() { hear(n, api.DoAbort, 2, tx(2, 1, 1)) })
}

func TestP22ACommitIsNeeded(t *testing.T) {
	n := newNode(1, api.Abort)
	x, _, _ := n.Begin(1)
	hear(n, api.Yes, 0, x)
	wantHeld(t, n, func() { hear(n, api.Ack, 0, x) })
}

func TestP22AnAbortIsNeeded(t *testing.T) {
	n := newNode(1, api.Nothing)
	x, _, _ := n.Begin(1)
	n.Tick()
	n.Tick()
	wantHeld(t, n, func() { hear(n, api.Ack, 0, x) })
}

func TestP22AnInitIsNeeded(t *testing.T) {
	n := newNode(1, api.Commit)
	x, _, _ := n.Begin(5)
	wantHeld(t, n, func() { hear(n, api.Yes, 0, x); hear(n, api.Yes, 2, x) })
}

// With presumed commit an abort has no record but the Init.
func TestP22AnInitOfAnAbortIsNeeded(t *testing.T) {
	n := newNode(1, api.Commit)
	x, _, _ := n.Begin(5)
	hear(n, api.No, 0, x)
	wantHeld(t, n, func() { hear(n, api.Ack, 2, x) })
}

func TestP22NothingIsNeededOfOneWithoutARecord(t *testing.T) {
	for _, variant := range []int{api.Nothing, api.Abort} {
		n := newNode(1, variant)
		n.Begin(1)
		fillTo(t, n, 9)
		wantJournal(t, n, 9, 0)
	}
}

// The journal is cut at the least record that is needed, in the midst of a segment too.
func TestP22TheLeastIsTaken(t *testing.T) {
	n := newNode(1, api.Nothing)
	hear(n, api.Prepare, 0, tx(0, 1, 1))
	fillTo(t, n, 10)
	hear(n, api.Prepare, 0, tx(0, 1, 2))
	hear(n, api.Prepare, 0, tx(0, 1, 3))
	if n.journal.Low() != 1 {
		t.Fatalf("Low is %d", n.journal.Low())
	}
	hear(n, api.DoCommit, 0, tx(0, 1, 1))
	wantJournal(t, n, 10, 0,
		record.Record{Kind: record.Yes, Txn: tx(0, 1, 2)},
		record.Record{Kind: record.Yes, Txn: tx(0, 1, 3)},
		record.Record{Kind: record.Done, Txn: tx(0, 1, 1), Outcome: api.Committed})
	wantNote(t, n, record.Marks{0: tx(0, 1, 3), 3: tx(3, 1, 8)})
	hear(n, api.DoCommit, 0, tx(0, 1, 2)) // the next one is in the segment of Low
	if n.journal.Low() != 10 {
		t.Fatalf("Low is %d", n.journal.Low())
	}
}

// The room is counted from the first record of Low's segment.
func TestRoom(t *testing.T) {
	n := newNode(1, api.Nothing)
	if n.room() != 24 {
		t.Errorf("the room is %d at first", n.room())
	}
	hear(n, api.Prepare, 0, tx(0, 1, 1))
	fillTo(t, n, 10)
	if n.room() != 15 {
		t.Errorf("the room is %d behind nine records", n.room())
	}
	hear(n, api.Prepare, 0, tx(0, 1, 2))
	hear(n, api.DoCommit, 0, tx(0, 1, 1))
	if n.journal.Low() != 10 || n.room() != 21 {
		t.Errorf("Low is %d, the room %d, want 10, 21", n.journal.Low(), n.room())
	}
}

func TestNeed(t *testing.T) {
	n := newNode(1, api.Nothing)
	n.Begin(1)
	n.Begin(2)
	hear(n, api.Prepare, 0, tx(0, 1, 1))
	if n.need() != 8 {
		t.Errorf("the need of two that are open and one that is prepared is %d", n.need())
	}
}

func TestP13FullAtMaxNumber(t *testing.T) {
	n := newNode(1, api.Abort)
	n.begun = api.MaxNumber - 1
	if n.Full() {
		t.Fatalf("full ahead of the last transaction")
	}
	if x, _, _ := n.Begin(1); x != tx(1, 1, api.MaxNumber) {
		t.Errorf("the last transaction is %v", x)
	}
	if !n.Full() {
		t.Errorf("not full behind the last transaction")
	}
}

func TestTransactionsAreOfTheJournalsEpoch(t *testing.T) {
	n := newNode(2, api.Nothing)
	if x, _, _ := n.Begin(1); x != tx(2, n.journal.Epoch(), 1) {
		t.Errorf("the first transaction is %v", x)
	}
}
