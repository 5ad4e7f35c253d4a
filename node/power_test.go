package node

import (
	"slices"
	"testing"

	"pact/api"
	"pact/record"
	"pact/set"
)

func crashAndRestart(t *testing.T, n *Node, keep ...bool) {
	t.Helper()
	n.Crash(keep)
	restart(t, n)
}

func restart(t *testing.T, n *Node) {
	t.Helper()
	if n.Up() {
		t.Fatalf("the node is up")
	}
	want := []api.Event{{Kind: api.Restarted, Node: n.id}}
	if events, e := n.Restart(); e != api.OK || !slices.Equal(events, want) {
		t.Fatalf("Restart = %+v, %d", events, e)
	}
	if !n.Up() {
		t.Fatalf("the node is down")
	}
}

func wantTable(t *testing.T, n *Node, want ...api.Entry) {
	t.Helper()
	if got := n.Table(); !slices.Equal(got, want) {
		t.Fatalf("the table is %+v, want %+v", got, want)
	}
}

func coordinates(x api.Txn, state, waits int) api.Entry {
	return api.Entry{Txn: x, Role: api.Coordinator, State: state, Waits: waits}
}

func prepared(x api.Txn) api.Entry {
	return api.Entry{Txn: x, Role: api.Participant, State: api.Prepared}
}

// Nothing of what is remembered outlives the power, even before there is a Restart.
func TestP17Forgets(t *testing.T) {
	n := newNode(1, api.Commit)
	n.Begin(5)
	hear(n, api.Prepare, 0, tx(0, 1, 1))
	n.Fuse(9, nil)
	want := []api.Event{{Kind: api.Crashed, Node: 1}}
	if events := n.Crash(nil); !slices.Equal(events, want) {
		t.Errorf("the events are %+v", events)
	}
	if len(n.open) != 0 || len(n.prepared) != 0 || n.marks != (record.Marks{}) || n.begun != 0 || n.fuse != nil || n.journal != nil {
		t.Errorf("a node that is down remembers %+v", n)
	}
}

// A failure of power comes ahead of the append: nothing of that record is on the disk.
func TestP18NothingIsAppended(t *testing.T) {
	n := newNode(1, api.Nothing)
	hear(n, api.Prepare, 0, tx(0, 1, 1))
	n.Fuse(0, []bool{true, true, true})
	want := []api.Event{{Kind: api.Crashed, Node: 1}}
	events, e := n.Act(api.Message{Kind: api.DoCommit, To: 1, Txn: tx(0, 1, 1)})
	if e != api.ErrPower || !slices.Equal(events, want) {
		t.Fatalf("Act = %+v, %d", events, e)
	}
	restart(t, n)
	wantJournal(t, n, 1, 0, record.Record{Kind: record.Yes, Txn: tx(0, 1, 1)})
	wantTable(t, n, prepared(tx(0, 1, 1)))
}

// Only a failure of power is caught at the edge: a fault of the program is not hidden.
func TestOtherPanicsGoOn(t *testing.T) {
	defer func() {
		if recover() != "a fault" {
			t.Errorf("the panic was lost")
		}
	}()
	newNode(0, api.Nothing).do(func() { panic("a fault") })
}

func TestP19FullAtMaxNumber(t *testing.T) {
	n := newNode(0, api.Abort)
	n.incarnation = api.MaxNumber - 1
	crashAndRestart(t, n)
	n.incarnation = api.MaxNumber
	n.Crash(nil)
	for range 2 {
		if events, e := n.Restart(); e != api.ErrFull || events != nil {
			t.Errorf("Restart behind the last incarnation = %+v, %d, want ErrFull", events, e)
		}
		if n.Up() {
			t.Errorf("the node is up")
		}
	}
}

func TestP19IncarnationIsTheEpoch(t *testing.T) {
	n := newNode(2, api.Nothing)
	for epoch := 2; epoch < 5; epoch++ {
		crashAndRestart(t, n)
		if x, _, _ := n.Begin(1); x != tx(2, epoch, 1) || n.journal.Epoch() != epoch {
			t.Errorf("in epoch %d the first transaction is %v", n.journal.Epoch(), x)
		}
	}
}

// The marks of a Yes, of a Done whose Yes is gone, and of the note; of each coordinator the greatest.
func TestP19Marks(t *testing.T) {
	n := newNode(1, api.Nothing)
	hear(n, api.DoAbort, 3, tx(3, 4, 4)) // noted
	hear(n, api.DoAbort, 2, tx(2, 1, 1)) // noted
	hear(n, api.Prepare, 2, tx(2, 1, 5)) // a greater Yes
	want := record.Marks{2: tx(2, 1, 5), 3: tx(3, 4, 4)}
	for range 3 {
		crashAndRestart(t, n)
		wantMarks(t, n, want)
	}
	hear(n, api.DoAbort, 2, tx(2, 3, 1)) // a greater one is noted
	want[2] = tx(2, 3, 1)
	hear(n, api.Prepare, 0, tx(0, 1, 7))
	hear(n, api.DoCommit, 0, tx(0, 1, 7))
	want[0] = tx(0, 1, 7)
	for range 3 {
		crashAndRestart(t, n)
		wantMarks(t, n, want)
	}
}

// A Yes that is gone from the journal was noted; its Done is not less.
func TestP19MarksOfADone(t *testing.T) {
	n := newNode(1, api.Abort)
	n.write(record.Record{Kind: record.Done, Txn: tx(0, 2, 3), Outcome: api.Aborted})
	crashAndRestart(t, n, true)
	wantMarks(t, n, record.Marks{tx(0, 2, 3)})
	wantTable(t, n)
}

func wantMarks(t *testing.T, n *Node, want record.Marks) {
	t.Helper()
	for coord := range want {
		want[coord].Coord = coord
		got := n.marks[coord]
		got.Coord = coord
		if got != want[coord] {
			t.Fatalf("the mark of node %d is %v, want %v", coord, got, want[coord])
		}
	}
}

// recalled tells the table of a node in whose journal these records are.
func recalled(t *testing.T, variant int, records ...record.Record) []api.Entry {
	t.Helper()
	n := newNode(0, variant)
	for _, r := range records {
		n.force(r)
	}
	crashAndRestart(t, n)
	return n.Table()
}

func TestP19Records(t *testing.T) {
	x, y := tx(0, 1, 1), tx(0, 1, 2)
	rec := func(kind int, x api.Txn, nodes set.Set) record.Record {
		return record.Record{Kind: kind, Txn: x, Nodes: nodes}
	}
	for i, c := range []struct {
		variant int
		records []record.Record
		want    []api.Entry
	}{
		{api.Commit, []record.Record{rec(record.Init, x, 6)}, []api.Entry{coordinates(x, api.Aborting, 6)}},
		{api.Commit, []record.Record{rec(record.Init, x, 6), rec(record.Commit, x, 6)}, nil},
		{api.Commit, []record.Record{rec(record.Init, x, 6), rec(record.End, x, 0)}, nil},
		{api.Commit, []record.Record{rec(record.Commit, x, 6)}, nil},
		{api.Commit, []record.Record{rec(record.Init, x, 6), rec(record.Init, y, 5), rec(record.Commit, x, 6)}, []api.Entry{coordinates(y, api.Aborting, 5)}},
		{api.Commit, []record.Record{rec(record.Init, x, 6), rec(record.Init, y, 5), rec(record.End, y, 0)}, []api.Entry{coordinates(x, api.Aborting, 6)}},
		{api.Abort, []record.Record{rec(record.Commit, x, 6)}, []api.Entry{coordinates(x, api.Committing, 6)}},
		{api.Abort, []record.Record{rec(record.Commit, x, 6), rec(record.End, x, 0)}, nil},
		{api.Abort, []record.Record{rec(record.Commit, y, 8), rec(record.Commit, x, 6)}, []api.Entry{coordinates(x, api.Committing, 6), coordinates(y, api.Committing, 8)}},
		{api.Nothing, []record.Record{rec(record.Commit, x, 6)}, []api.Entry{coordinates(x, api.Committing, 6)}},
		{api.Nothing, []record.Record{rec(record.Commit, x, 6), rec(record.End, x, 0)}, nil},
		{api.Nothing, []record.Record{rec(record.Abort, x, 4)}, []api.Entry{coordinates(x, api.Aborting, 4)}},
		{api.Nothing, []record.Record{rec(record.Abort, x, 4), rec(record.End, x, 0)}, nil},
		{api.Nothing, []record.Record{rec(record.Abort, x, 0)}, nil},
		{api.Nothing, []record.Record{rec(record.Abort, x, 4), rec(record.Abort, y, 0), rec(record.End, y, 0)}, []api.Entry{coordinates(x, api.Aborting, 4)}},
		{api.Nothing, []record.Record{rec(record.Yes, x, 0)}, []api.Entry{prepared(x)}},
		{api.Nothing, []record.Record{rec(record.Yes, x, 0), rec(record.Done, x, 0)}, nil},
		{api.Nothing, []record.Record{rec(record.Done, x, 0)}, nil},
		// A node that has a part in its own transaction: the records of both roles have nothing to do with one another.
		{api.Nothing, []record.Record{rec(record.Yes, x, 0), rec(record.Commit, x, 1), rec(record.Done, x, 0)}, []api.Entry{coordinates(x, api.Committing, 1)}},
		{api.Nothing, []record.Record{rec(record.Yes, x, 0), rec(record.Commit, x, 1), rec(record.End, x, 0)}, []api.Entry{prepared(x)}},
		{api.Commit, []record.Record{rec(record.Init, x, 1), rec(record.Yes, x, 0), rec(record.Commit, x, 1)}, []api.Entry{prepared(x)}},
	} {
		if got := recalled(t, c.variant, c.records...); !slices.Equal(got, c.want) {
			t.Errorf("case %d: the table is %+v, want %+v", i, got, c.want)
		}
	}
}

// What is open or prepared behind a Restart holds the journal as it did ahead of it.
func TestP22HeldBehindARestart(t *testing.T) {
	begun := []func() (*Node, func()){
		func() (*Node, func()) {
			n := newNode(1, api.Nothing)
			hear(n, api.Prepare, 2, tx(2, 1, 1))
			return n, func() { hear(n, api.DoAbort, 2, tx(2, 1, 1)) }
		},
		func() (*Node, func()) {
			n := newNode(1, api.Abort)
			x, _, _ := n.Begin(1)
			hear(n, api.Yes, 0, x)
			return n, func() { hear(n, api.Ack, 0, x) }
		},
		func() (*Node, func()) {
			n := newNode(1, api.Nothing)
			x, _, _ := n.Begin(5)
			hear(n, api.No, 0, x)
			return n, func() { hear(n, api.Ack, 2, x) }
		},
		func() (*Node, func()) {
			n := newNode(1, api.Commit)
			x, _, _ := n.Begin(1)
			return n, func() { hear(n, api.Ack, 0, x) }
		},
	}
	for _, begin := range begun {
		n, letGo := begin()
		crashAndRestart(t, n)
		wantHeld(t, n, letGo)
	}
}

// An End that was not written any more, behind an Abort without nodes that is the last record of its segment: only the Restart can let go of the segment.
func TestP22AtARestart(t *testing.T) {
	n := newNode(1, api.Nothing)
	refused := func() {
		t.Helper()
		x, _, _ := n.Begin(1)
		n.Fuse(1, nil)
		if _, e := n.Act(api.Message{Kind: api.No, To: 1, Txn: x}); e != api.ErrPower {
			t.Fatalf("Act = %d, want ErrPower", e)
		}
		restart(t, n)
	}
	refused()
	fillTo(t, n, 8)
	refused()
	wantJournal(t, n, 9, 0)
	wantNote(t, n, record.Marks{3: tx(3, 1, 6)})
	if n.room() != 24 {
		t.Errorf("the room is %d", n.room())
	}
	crashAndRestart(t, n)
	wantMarks(t, n, record.Marks{3: tx(3, 1, 6)})
}

// Room and need are those of what is remembered behind a Restart.
func TestP19RoomAndNeed(t *testing.T) {
	n := newNode(1, api.Commit)
	n.Begin(1)
	n.Begin(1)
	hear(n, api.Prepare, 0, tx(0, 1, 1))
	hear(n, api.Prepare, 0, tx(0, 1, 2))
	hear(n, api.DoCommit, 0, tx(0, 1, 2))
	if n.room() != 19 || n.need() != 8 {
		t.Errorf("room and need are %d and %d", n.room(), n.need())
	}
	crashAndRestart(t, n) // the Done was lazy
	if n.room() != 20 || n.need() != 10 {
		t.Errorf("behind a Restart, room and need are %d and %d", n.room(), n.need())
	}
}
