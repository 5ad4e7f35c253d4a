package pact_test

import (
	"testing"

	"pact/api"
	"pact/pact"
)

func TestP19Restart(t *testing.T) {
	for _, variant := range variants {
		k := start(t, conf(2, variant))
		for inc := 2; inc <= 40; inc++ {
			before := len(k.Trace(0))
			crashAndRestart(t, k, 1, true) // the last End is kept
			wantTrace(t, k, before, crashed(1), restarted(1))
			wantTable(t, k, 1)
			if e := k.Restart(1); e != api.ErrUp {
				t.Fatalf("a second Restart = %d, want ErrUp", e)
			}
			for seq := 1; seq <= 2; seq++ {
				if x := begin(t, k, 1, 0); x != tx(1, inc, seq) {
					t.Fatalf("Begin = %v, want %v", x, tx(1, inc, seq))
				}
				deliverAll(t, k)
			}
		}
		if x := begin(t, k, 0, 1); x != tx(0, 1, 1) {
			t.Errorf("Begin = %v: the other node has no new incarnation", x)
		}
	}
}

// An Init without a Commit or End is Aborting; the client is told nothing.
func TestP19AnInit(t *testing.T) {
	k := start(t, conf(3, api.Commit))
	x := begin(t, k, 0, 1, 2)
	deliver(t, k, 0, 0, 0) // one Yes is heard
	dropAll(k)
	before := len(k.Trace(0))
	crashAndRestart(t, k, 0)
	wantTable(t, k, 0, coordinates(x, api.Aborting, 6))
	tick(t, k, 0)
	wantTrace(t, k, before, crashed(0), restarted(0), sent(api.DoAbort, 0, 1, x), sent(api.DoAbort, 0, 2, x))
	deliverAll(t, k)
	wantTable(t, k, 0)
	crashAndRestart(t, k, 0) // the End was lazy
	wantTable(t, k, 0, coordinates(x, api.Aborting, 6))
	tick(t, k, 0)
	deliverAll(t, k)
	crashAndRestart(t, k, 0, true)
	wantTable(t, k, 0)
}

// With presumed commit, an abort has no record of its own: all parts are waited for, even the one that said No.
func TestP19AnInitOfAnAbort(t *testing.T) {
	k := start(t, conf(3, api.Commit))
	k.Refuse(2, true)
	x := begin(t, k, 0, 1, 2)
	deliver(t, k, 0, 0, 0, 0)
	wantTable(t, k, 0, coordinates(x, api.Aborting, 2))
	crashAndRestart(t, k, 0)
	wantTable(t, k, 0, coordinates(x, api.Aborting, 6))
	tick(t, k, 0)
	deliverAll(t, k)
	wantTable(t, k, 0)
}

func TestP19ACommit(t *testing.T) {
	for _, variant := range variants {
		k := start(t, conf(3, variant))
		x := begin(t, k, 0, 1, 2)
		deliver(t, k, 0, 0, 0, 0)
		deliver(t, k, 0)
		if variant == api.Commit {
			crashAndRestart(t, k, 0)
			wantTable(t, k, 0)
			continue
		}
		deliver(t, k, 1) // an Ack is heard, and not written down
		wantTable(t, k, 0, coordinates(x, api.Committing, 4))
		crashAndRestart(t, k, 0)
		wantTable(t, k, 0, coordinates(x, api.Committing, 6))
		dropAll(k)
		tick(t, k, 0)
		wantNet(t, k, msg(api.DoCommit, 0, 1, x), msg(api.DoCommit, 0, 2, x))
		deliverAll(t, k)
		wantTable(t, k, 0)
		crashAndRestart(t, k, 0) // the End was lazy
		wantTable(t, k, 0, coordinates(x, api.Committing, 6))
		tick(t, k, 0)
		deliverAll(t, k)
		crashAndRestart(t, k, 0, true)
		wantTable(t, k, 0)
	}
}

func TestP19AnAbort(t *testing.T) {
	k := start(t, conf(4, api.Nothing))
	k.Refuse(2, true)
	x := begin(t, k, 0, 1, 2, 3)
	deliver(t, k, 1, 2)
	wantTable(t, k, 0, coordinates(x, api.Aborting, 10))
	crashAndRestart(t, k, 0)
	wantTable(t, k, 0, coordinates(x, api.Aborting, 10)) // these alone
	dropAll(k)
	tick(t, k, 0)
	wantNet(t, k, msg(api.DoAbort, 0, 1, x), msg(api.DoAbort, 0, 3, x))
	deliverAll(t, k)
	wantTable(t, k, 0)
	crashAndRestart(t, k, 0, true)
	wantTable(t, k, 0)
}

// An abort that is presumed has no record.
func TestP19APresumedAbort(t *testing.T) {
	k := start(t, conf(2, api.Abort))
	begin(t, k, 0, 1)
	tick(t, k, 0)
	tick(t, k, 0)
	crashAndRestart(t, k, 0)
	wantTable(t, k, 0)
}

func TestP19AYes(t *testing.T) {
	for _, variant := range variants {
		for _, outcome := range []int{api.Committed, api.Aborted} {
			k := start(t, conf(3, variant))
			k.Refuse(2, outcome == api.Aborted)
			x := begin(t, k, 0, 1, 2)
			deliver(t, k, 0)
			crashAndRestart(t, k, 1)
			wantTable(t, k, 1, prepared(x))
			deliver(t, k, 0, 0, 0)
			deliverKind(t, k, []int{0, api.DoCommit, api.DoAbort}[outcome], 1)
			wantTable(t, k, 1)
			crashAndRestart(t, k, 1)
			if due(variant, outcome) { // the Done was forced
				wantTable(t, k, 1)
				continue
			}
			wantTable(t, k, 1, prepared(x))
			dropAll(k)
			tick(t, k, 1)
			deliver(t, k, 0)
			before := len(k.Trace(0))
			deliver(t, k, 0)
			wantTrace(t, k, before, event(api.Applied, 1, x, outcome))
			crashAndRestart(t, k, 1, true)
			wantTable(t, k, 1)
		}
	}
}

// Whatever marked a transaction, it is marked behind a Restart: a late Prepare of it, or of a lesser one, is nothing.
func TestP19Marks(t *testing.T) {
	deliverLast := func(k *pact.Cluster) { k.Deliver(len(k.Net()) - 1) }
	marking := []func(k *pact.Cluster){
		func(k *pact.Cluster) { k.Refuse(1, true); k.Deliver(1); k.Refuse(1, false) },        // No
		func(k *pact.Cluster) { k.Deliver(1); deliverLast(k); deliverLast(k) },               // Yes, and Done
		func(k *pact.Cluster) { k.Tick(0); k.Tick(0); deliverLast(k) },                       // DoAbort ahead of the Prepare
		func(k *pact.Cluster) { k.Refuse(1, true); k.Deliver(2); k.Tick(1); deliverLast(k) }, // No, heard
	}
	for i, mark := range marking {
		for _, variant := range []int{api.Nothing, api.Commit} {
			k := start(t, conf(2, variant))
			begin(t, k, 0, 1)
			begin(t, k, 0, 1)
			k.Copy(1)
			mark(k)
			for range 3 {
				crashAndRestart(t, k, 1, true)
			}
			k.Refuse(1, i%2 == 0)
			before := len(k.Trace(0))
			for _, m := range k.Net() {
				if m.Kind == api.Prepare {
					deliverKind(t, k, api.Prepare, 1)
				}
			}
			wantTrace(t, k, before)
			wantTable(t, k, 1)
		}
	}
}

// The marks of many transactions that are long gone from the journal are noted, and those in it are greater.
func TestP19MarksBehindManyRecords(t *testing.T) {
	for _, variant := range variants {
		k := start(t, conf(3, variant))
		for i := range 40 {
			x := begin(t, k, 0, 1)
			y := begin(t, k, 2, 1)
			k.Copy(0)
			k.Copy(1)
			wantNet(t, k, msg(api.Prepare, 0, 1, x), msg(api.Prepare, 2, 1, y), msg(api.Prepare, 0, 1, x), msg(api.Prepare, 2, 1, y))
			deliver(t, k, 0, 0)
			for len(k.Net()) > 2 {
				deliver(t, k, 2)
			}
			crashAndRestart(t, k, 1, true, true)
			wantTable(t, k, 1)
			before := len(k.Trace(0))
			deliver(t, k, 0, 0)
			wantTrace(t, k, before)
			if i%3 == 0 {
				crashAndRestart(t, k, 0, true, true)
			}
		}
	}
}

// A transaction of a later incarnation is greater, whatever its number.
func TestP19MarksOfALaterIncarnation(t *testing.T) {
	k := start(t, conf(2, api.Nothing))
	for range 5 {
		begin(t, k, 0, 1)
		deliverAll(t, k)
	}
	crashAndRestart(t, k, 0, true)
	x := begin(t, k, 0, 1)
	deliver(t, k, 0)
	wantTable(t, k, 1, prepared(x))
}

func TestP16TableIsSortedByIncarnation(t *testing.T) {
	k := start(t, conf(3, api.Nothing))
	var own, asked []api.Entry
	for inc := 1; inc <= 2; inc++ {
		for seq := 1; seq <= 2; seq++ {
			x := begin(t, k, 0, 1)
			deliver(t, k, 0, 0)
			own = append(own, coordinates(x, api.Committing, 2))
			asked = append(asked, prepared(x))
			dropAll(k)
		}
		crashAndRestart(t, k, 0)
	}
	wantTable(t, k, 0, own...)
	wantTable(t, k, 1, asked...)
	crashAndRestart(t, k, 1)
	wantTable(t, k, 1, asked...)
	before := len(k.Trace(0))
	tick(t, k, 0)
	var want []api.Event
	for _, e := range own {
		want = append(want, sent(api.DoCommit, 0, 1, e.Txn))
	}
	wantTrace(t, k, before, want...)
}

// What a node remembers behind a Restart counts for what it can begin.
func TestP13FullBehindARestart(t *testing.T) {
	k := start(t, conf(2, api.Commit))
	for range api.MaxOpen {
		begin(t, k, 0, 1)
	}
	crashAndRestart(t, k, 0)
	if x, e := k.Begin(0, []int{1}); x != (api.Txn{}) || e != api.ErrFull {
		t.Errorf("Begin = %v, %d, want ErrFull", x, e)
	}
	dropAll(k)
	tick(t, k, 0)
	deliverAll(t, k)
	if x := begin(t, k, 0, 1); x != tx(0, 2, 1) {
		t.Errorf("Begin = %v", x)
	}
}

// With presumed nothing, who asks for a transaction that was not decided hears of an abort, and acks it.
func TestP20InquiryBehindARestart(t *testing.T) {
	for _, variant := range variants {
		k := start(t, conf(2, variant))
		x := begin(t, k, 0, 1)
		deliver(t, k, 0)
		crashAndRestart(t, k, 0)
		deliver(t, k, 0) // the Yes comes too late
		tick(t, k, 1)
		deliver(t, k, 0)
		wantNet(t, k, msg(api.DoAbort, 0, 1, x))
		deliverAll(t, k)
		for node := range 2 {
			wantTable(t, k, node)
		}
	}
}
