package pact_test

import (
	"testing"

	"pact/api"
	"pact/pact"
)

func due(variant, outcome int) bool {
	return variant == api.Nothing || variant == api.Abort && outcome == api.Committed || variant == api.Commit && outcome == api.Aborted
}

// deliverKind delivers the first message of a kind that goes to a node.
func deliverKind(t *testing.T, k *pact.Cluster, kind, to int) {
	t.Helper()
	for i, m := range k.Net() {
		if m.Kind == kind && m.To == to {
			deliver(t, k, i)
			return
		}
	}
	t.Fatalf("no message of kind %d goes to node %d: %+v", kind, to, k.Net())
}

func TestP20PrepareTwice(t *testing.T) {
	k := start(t, conf(2, api.Abort))
	x := begin(t, k, 0, 1)
	k.Copy(0)
	deliver(t, k, 0, 0)
	wantNet(t, k, msg(api.Yes, 1, 0, x), msg(api.Yes, 1, 0, x))
	wantTable(t, k, 1, prepared(x))
	wantCosts(t, k, 1, 1, 0, 2)
}

// A node that has prepared says Yes again, even if it votes no by now.
func TestP20PrepareAgainOfOneThatRefuses(t *testing.T) {
	k := start(t, conf(2, api.Abort))
	x := begin(t, k, 0, 1)
	k.Copy(0)
	deliver(t, k, 0)
	k.Refuse(1, true)
	deliver(t, k, 0)
	wantNet(t, k, msg(api.Yes, 1, 0, x), msg(api.Yes, 1, 0, x))
}

func TestP20PrepareOfOneThatRefuses(t *testing.T) {
	for _, variant := range variants {
		k := start(t, conf(2, variant))
		k.Refuse(1, true)
		x := begin(t, k, 0, 1)
		k.Copy(0)
		k.Copy(0)
		deliver(t, k, 0, 0)
		k.Refuse(1, false)
		deliver(t, k, 0) // it is marked: one No is all that is said
		wantNet(t, k, msg(api.No, 1, 0, x))
		wantTable(t, k, 1)
		wantCosts(t, k, 1, 1, 0, 1)
	}
}

// A Prepare that comes behind that of a greater transaction is late.
func TestP20PrepareBelowTheMark(t *testing.T) {
	for _, variant := range variants {
		for _, refuses := range []bool{false, true} {
			k := start(t, conf(3, variant))
			begin(t, k, 0, 1)
			y := begin(t, k, 0, 1)
			z := begin(t, k, 2, 1)
			deliver(t, k, 1)
			k.Refuse(1, refuses)
			deliver(t, k, 0)
			wantNet(t, k, msg(api.Prepare, 2, 1, z), msg(api.Yes, 1, 0, y))
			wantTable(t, k, 1, prepared(y))
			k.Refuse(1, false)
			deliver(t, k, 0) // another coordinator has another mark
			wantTable(t, k, 1, prepared(y), prepared(z))
			wantCosts(t, k, 1, 2, 0, 2)
		}
	}
}

func TestP20PrepareOfOneTooMany(t *testing.T) {
	k := start(t, api.Config{Nodes: 3, Variant: api.Nothing, Ring: 6, PerSegment: 16, Patience: 8})
	for range api.MaxOpen {
		begin(t, k, 0, 1)
	}
	x := begin(t, k, 2, 1)
	deliver(t, k, 0, 0, 0, 0)
	k.Copy(0)
	k.Copy(0)
	deliver(t, k, 0)
	if l, _ := k.Table(1); len(l) != api.MaxOpen {
		t.Fatalf("%d are prepared", len(l))
	}
	wantCosts(t, k, 1, api.MaxOpen, 0, api.MaxOpen)
	for _, m := range k.Net()[:api.MaxOpen] {
		deliverKind(t, k, m.Kind, m.To)
	}
	deliverKind(t, k, api.DoCommit, 1)
	deliverKind(t, k, api.Prepare, 1) // it was not marked by the one that came to nothing
	if l, _ := k.Table(1); len(l) != api.MaxOpen || l[api.MaxOpen-1] != prepared(x) {
		t.Fatalf("prepared are %+v", l)
	}
	begin(t, k, 2, 1)
	k.Refuse(1, true) // a no needs no room
	deliverKind(t, k, api.Prepare, 1)
	deliverKind(t, k, api.Prepare, 1)
	deliverKind(t, k, api.No, 2)
}

// With one that stays prepared, a vote needs room for 4; with one that is open besides, for 7.
func TestP20PrepareWithoutRoom(t *testing.T) {
	for _, opens := range []int{0, 1, 2} {
		for used := 0; used <= 11; used++ {
			k := start(t, conf(3, api.Nothing))
			begin(t, k, 1, 0)
			deliver(t, k, 0)
			k.Drop(0)
			use(t, k, 0, 2, used)
			if c, _ := k.Costs(0); c.Forced != 1+2*used {
				break
			}
			failed := false
			for range opens {
				_, e := k.Begin(0, []int{1})
				failed = failed || e != api.OK
			}
			if failed {
				break
			}
			dropAll(k)
			x := begin(t, k, 2, 0)
			deliver(t, k, 0)
			if 24-(1+2*used) >= 3*opens+2+2 {
				wantNet(t, k, msg(api.Yes, 0, 2, x))
			} else {
				wantNet(t, k)
			}
		}
	}
}

func TestP20YesAndCommit(t *testing.T) {
	for _, variant := range variants {
		k := start(t, conf(4, variant))
		x := begin(t, k, 1, 3, 1, 0)
		deliver(t, k, 2, 1, 0)
		k.Copy(0)
		wantNet(t, k, msg(api.Yes, 3, 1, x), msg(api.Yes, 1, 1, x), msg(api.Yes, 0, 1, x), msg(api.Yes, 3, 1, x))
		deliver(t, k, 0)
		wantTable(t, k, 1, coordinates(x, api.Preparing, 3), prepared(x))
		deliver(t, k, 2) // it was heard already
		wantTable(t, k, 1, coordinates(x, api.Preparing, 3), prepared(x))
		deliver(t, k, 1)
		wantTable(t, k, 1, coordinates(x, api.Preparing, 2), prepared(x))
		before := len(k.Trace(0))
		deliver(t, k, 0)
		wantTrace(t, k, before, event(api.Told, 1, x, api.Committed), sent(api.DoCommit, 1, 0, x), sent(api.DoCommit, 1, 1, x), sent(api.DoCommit, 1, 3, x))
		if due(variant, api.Committed) {
			wantTable(t, k, 1, coordinates(x, api.Committing, 11), prepared(x))
		} else {
			wantTable(t, k, 1, prepared(x))
		}
	}
}

// A Yes or a No that comes behind the outcome changes nothing.
func TestP20LateVotes(t *testing.T) {
	for _, variant := range variants {
		k := start(t, conf(3, variant))
		x := begin(t, k, 0, 1, 2)
		deliver(t, k, 0, 0)
		k.Copy(0)
		k.Copy(1)
		deliver(t, k, 0, 0)
		was := viewOf(k)
		deliver(t, k, 0, 0)
		was.net = was.net[2:]
		wantView(t, viewOf(k), was)

		k = start(t, conf(3, variant))
		k.Refuse(1, true)
		k.Refuse(2, true)
		x = begin(t, k, 0, 1, 2)
		deliver(t, k, 0, 0, 0)
		wantNet(t, k, msg(api.No, 2, 0, x), msg(api.DoAbort, 0, 2, x))
		was = viewOf(k)
		deliver(t, k, 0)
		was.net = was.net[1:]
		wantView(t, viewOf(k), was)
	}
}

// A No of one from whom a Yes was heard can't be; a doubled No is late.
func TestP20No(t *testing.T) {
	for _, variant := range variants {
		k := start(t, conf(4, variant))
		k.Refuse(2, true)
		x := begin(t, k, 0, 0, 1, 2, 3)
		deliver(t, k, 3, 2)
		wantNet(t, k, msg(api.Prepare, 0, 0, x), msg(api.Prepare, 0, 1, x), msg(api.Yes, 3, 0, x), msg(api.No, 2, 0, x))
		k.Copy(3)
		deliver(t, k, 2)
		before := len(k.Trace(0))
		deliver(t, k, 2)
		wantTrace(t, k, before, event(api.Told, 0, x, api.Aborted), sent(api.DoAbort, 0, 0, x), sent(api.DoAbort, 0, 1, x), sent(api.DoAbort, 0, 3, x))
		if due(variant, api.Aborted) {
			wantTable(t, k, 0, coordinates(x, api.Aborting, 11))
		} else {
			wantTable(t, k, 0)
		}
		was := viewOf(k)
		deliver(t, k, 2)
		was.net = append(was.net[:2:2], was.net[3:]...)
		wantView(t, viewOf(k), was)
	}
}

func TestP20OutcomesOfWhatIsPrepared(t *testing.T) {
	for _, variant := range variants {
		for _, outcome := range []int{api.Committed, api.Aborted} {
			k := start(t, conf(3, variant))
			k.Refuse(2, outcome == api.Aborted)
			x := begin(t, k, 0, 1, 2)
			deliver(t, k, 0, 0, 0)
			deliverKind(t, k, []int{0, api.Yes, api.No}[outcome], 0)
			before := len(k.Trace(0))
			deliverKind(t, k, []int{0, api.DoCommit, api.DoAbort}[outcome], 1)
			wantTable(t, k, 1)
			if due(variant, outcome) {
				wantTrace(t, k, before, event(api.Applied, 1, x, outcome), sent(api.Ack, 1, 0, x))
				wantCosts(t, k, 1, 2, 0, 2)
			} else {
				wantTrace(t, k, before, event(api.Applied, 1, x, outcome))
				wantCosts(t, k, 1, 1, 1, 1)
			}
		}
	}
}

// An outcome that comes again is acked again where acks are due, and applied once.
func TestP20OutcomesAgain(t *testing.T) {
	for _, variant := range variants {
		k := start(t, conf(2, variant))
		x := begin(t, k, 0, 1)
		deliver(t, k, 0, 0)
		k.Copy(0)
		k.Copy(0)
		deliver(t, k, 0)
		before := len(k.Trace(0))
		c, _ := k.Costs(1)
		deliver(t, k, 0, 0)
		if variant == api.Commit {
			wantTrace(t, k, before)
			wantCosts(t, k, 1, c.Forced, c.Lazy, c.Sent)
		} else {
			wantTrace(t, k, before, sent(api.Ack, 1, 0, x), sent(api.Ack, 1, 0, x))
			wantCosts(t, k, 1, c.Forced, c.Lazy, c.Sent+2) // it was marked with its Yes
		}
	}
}

// An abort that comes ahead of the Prepare: where acks are due, it is marked, so that the Prepare is late.
func TestP20AbortAheadOfThePrepare(t *testing.T) {
	for _, variant := range variants {
		k := start(t, conf(2, variant))
		x := begin(t, k, 0, 1)
		tick(t, k, 0)
		tick(t, k, 0)
		k.Copy(1)
		wantNet(t, k, msg(api.Prepare, 0, 1, x), msg(api.DoAbort, 0, 1, x), msg(api.DoAbort, 0, 1, x))
		deliver(t, k, 1, 1)
		if due(variant, api.Aborted) {
			wantNet(t, k, msg(api.Prepare, 0, 1, x), msg(api.Ack, 1, 0, x), msg(api.Ack, 1, 0, x))
			wantCosts(t, k, 1, 1, 0, 2)
			deliver(t, k, 0)
			wantTable(t, k, 1)
			wantCosts(t, k, 1, 1, 0, 2)
		} else {
			wantNet(t, k, msg(api.Prepare, 0, 1, x))
			wantCosts(t, k, 1, 0, 0, 0)
			deliver(t, k, 0)
			wantTable(t, k, 1, prepared(x))
		}
	}
}

func TestP20Acks(t *testing.T) {
	for _, variant := range []int{api.Nothing, api.Abort} {
		k := start(t, conf(3, variant))
		x := begin(t, k, 0, 1, 2)
		deliver(t, k, 0, 0, 0, 0, 0)
		k.Copy(1)
		deliver(t, k, 1)
		wantTable(t, k, 0, coordinates(x, api.Committing, 4))
		deliver(t, k, 1) // the same one once more
		wantTable(t, k, 0, coordinates(x, api.Committing, 4))
		wantCosts(t, k, 0, 1, 0, 4)
		deliver(t, k, 0)
		k.Copy(0)
		deliver(t, k, 0)
		wantTable(t, k, 0)
		wantCosts(t, k, 0, 1, 1, 4)
		deliver(t, k, 0) // not open any more
		wantCosts(t, k, 0, 1, 1, 4)
		wantNet(t, k)
	}
}

func TestP20AcksOfAnAbort(t *testing.T) {
	for _, variant := range []int{api.Nothing, api.Commit} {
		k := start(t, conf(4, variant))
		k.Refuse(3, true)
		x := begin(t, k, 0, 1, 2, 3)
		deliver(t, k, 0, 0, 0)
		deliverKind(t, k, api.No, 0)
		deliverKind(t, k, api.DoAbort, 2)
		deliverKind(t, k, api.Ack, 0)
		wantTable(t, k, 0, coordinates(x, api.Aborting, 2))
		wantCosts(t, k, 0, 1, 0, 5)
		deliverKind(t, k, api.DoAbort, 1)
		deliverKind(t, k, api.Ack, 0)
		wantTable(t, k, 0)
		wantCosts(t, k, 0, 1, 1, 5)
	}
}

// prepareAndAsk leaves two Inquiries of node 1 alone on their way.
func prepareAndAsk(t *testing.T, k *pact.Cluster, x api.Txn) {
	t.Helper()
	deliver(t, k, 0)
	tick(t, k, 1)
	tick(t, k, 1)
	inquiry := msg(api.Inquiry, 1, 0, x)
	wantNet(t, k, msg(api.Prepare, 0, 2, x), msg(api.Yes, 1, 0, x), inquiry, inquiry)
}

func TestP20Inquiry(t *testing.T) {
	for _, variant := range variants {
		k := start(t, conf(3, variant))
		x := begin(t, k, 0, 1, 2)
		prepareAndAsk(t, k, x)
		deliver(t, k, 2) // Preparing: nothing
		wantNet(t, k, msg(api.Prepare, 0, 2, x), msg(api.Yes, 1, 0, x), msg(api.Inquiry, 1, 0, x))
		tick(t, k, 0)
		tick(t, k, 0)
		if due(variant, api.Aborted) {
			wantTable(t, k, 0, coordinates(x, api.Aborting, 6))
		} else {
			wantTable(t, k, 0)
		}
		before := len(k.Trace(0))
		deliver(t, k, 2)
		wantTrace(t, k, before, sent(api.DoAbort, 0, 1, x))
	}
	for _, variant := range variants {
		k := start(t, conf(3, variant))
		x := begin(t, k, 0, 1, 2)
		prepareAndAsk(t, k, x)
		deliver(t, k, 1, 0)
		deliverKind(t, k, api.Yes, 0) // Committing, or not open and presumed committed
		before := len(k.Trace(0))
		deliverKind(t, k, api.Inquiry, 0)
		deliverKind(t, k, api.Inquiry, 0)
		wantTrace(t, k, before, sent(api.DoCommit, 0, 1, x), sent(api.DoCommit, 0, 1, x))
	}
}

// Of what was forgotten, what is presumed is told: an Inquiry comes behind all acks.
func TestP20InquiryOfWhatIsForgotten(t *testing.T) {
	for _, variant := range variants {
		k := start(t, conf(2, variant))
		x := begin(t, k, 0, 1)
		deliver(t, k, 0)
		tick(t, k, 1)
		for len(k.Net()) > 1 {
			i := 0
			if k.Net()[0].Kind == api.Inquiry {
				i = 1
			}
			deliver(t, k, i)
		}
		wantNet(t, k, msg(api.Inquiry, 1, 0, x))
		wantTable(t, k, 0)
		deliver(t, k, 0)
		if variant == api.Commit {
			wantNet(t, k, msg(api.DoCommit, 0, 1, x))
		} else {
			wantNet(t, k, msg(api.DoAbort, 0, 1, x))
		}
		deliverAll(t, k) // it was applied already, and stays so
		applied := 0
		for _, e := range k.Trace(0) {
			if e.Kind == api.Applied {
				applied++
			}
		}
		if applied != 1 {
			t.Errorf("an outcome was applied %d times", applied)
		}
	}
}

func TestP21Patience(t *testing.T) {
	for _, variant := range variants {
		for patience := 1; patience <= api.MaxPatience; patience++ {
			c := conf(3, variant)
			c.Patience = patience
			k := start(t, c)
			x := begin(t, k, 0, 1, 2)
			deliver(t, k, 0, 1) // node 1 has voted, and its Yes is heard
			dropAll(k)
			for range patience - 1 {
				tick(t, k, 0)
				tick(t, k, 2)
				wantNet(t, k)
				wantTable(t, k, 0, coordinates(x, api.Preparing, 4))
			}
			before := len(k.Trace(0))
			tick(t, k, 0)
			wantTrace(t, k, before, event(api.Told, 0, x, api.Aborted), sent(api.DoAbort, 0, 1, x), sent(api.DoAbort, 0, 2, x))
			if due(variant, api.Aborted) {
				wantTable(t, k, 0, coordinates(x, api.Aborting, 6))
			} else {
				wantTable(t, k, 0)
			}
		}
	}
}

// Each transaction has its own patience.
func TestP21PatienceOfEach(t *testing.T) {
	k := start(t, conf(2, api.Abort))
	x := begin(t, k, 0, 1)
	tick(t, k, 0)
	y := begin(t, k, 0, 1)
	tick(t, k, 0)
	wantTable(t, k, 0, coordinates(y, api.Preparing, 2))
	tick(t, k, 0)
	wantTable(t, k, 0)
	wantTrace(t, k, 2, event(api.Told, 0, x, api.Aborted), sent(api.DoAbort, 0, 1, x), event(api.Told, 0, y, api.Aborted), sent(api.DoAbort, 0, 1, y))
}

func TestP21OutcomesAreSentOnceMore(t *testing.T) {
	k := start(t, conf(4, api.Nothing))
	x := begin(t, k, 0, 1, 2, 3)
	for range 6 {
		deliver(t, k, 0)
	}
	deliver(t, k, 1)
	deliverKind(t, k, api.Ack, 0)
	dropAll(k)
	y := begin(t, k, 0, 3)
	tick(t, k, 0)
	z := begin(t, k, 0, 1, 3)
	dropAll(k)
	tick(t, k, 0) // x is sent to two, y is aborted, z waits
	wantNet(t, k, msg(api.DoCommit, 0, 1, x), msg(api.DoCommit, 0, 3, x), msg(api.DoAbort, 0, 3, y))
	wantTable(t, k, 0, coordinates(x, api.Committing, 10), coordinates(y, api.Aborting, 8), coordinates(z, api.Preparing, 10))
	dropAll(k)
	tick(t, k, 0)
	wantNet(t, k, msg(api.DoCommit, 0, 1, x), msg(api.DoCommit, 0, 3, x), msg(api.DoAbort, 0, 3, y), msg(api.DoAbort, 0, 1, z), msg(api.DoAbort, 0, 3, z))
	deliver(t, k, 0)
	dropAll(k)
	tick(t, k, 0)
	wantNet(t, k, msg(api.DoCommit, 0, 1, x), msg(api.DoCommit, 0, 3, x), msg(api.DoAbort, 0, 3, y), msg(api.DoAbort, 0, 1, z), msg(api.DoAbort, 0, 3, z))
}

func TestP21Inquiries(t *testing.T) {
	k := start(t, conf(3, api.Commit))
	x := begin(t, k, 2, 1)
	y := begin(t, k, 1, 1, 0)
	z := begin(t, k, 0, 1)
	v := begin(t, k, 0, 1)
	for range 5 {
		deliver(t, k, 0)
	}
	dropAll(k)
	tick(t, k, 1)
	wantNet(t, k, msg(api.Inquiry, 1, 0, z), msg(api.Inquiry, 1, 0, v), msg(api.Inquiry, 1, 1, y), msg(api.Inquiry, 1, 2, x))
	dropAll(k)
	tick(t, k, 1) // what it does as a coordinator comes first
	wantNet(t, k, msg(api.DoAbort, 1, 0, y), msg(api.DoAbort, 1, 1, y), msg(api.Inquiry, 1, 0, z), msg(api.Inquiry, 1, 0, v), msg(api.Inquiry, 1, 1, y), msg(api.Inquiry, 1, 2, x))
	deliver(t, k, 1) // its own abort: it is prepared no more
	dropAll(k)
	tick(t, k, 1)
	wantNet(t, k, msg(api.DoAbort, 1, 0, y), msg(api.DoAbort, 1, 1, y), msg(api.Inquiry, 1, 0, z), msg(api.Inquiry, 1, 0, v), msg(api.Inquiry, 1, 2, x))
}

// A transaction that holds the journal keeps others from being begun till it ends.
func TestP22OldRecordsHoldTheJournal(t *testing.T) {
	for _, variant := range variants {
		k := start(t, conf(2, variant))
		x := begin(t, k, 1, 0)
		deliver(t, k, 0) // its Yes is record 1 of node 0
		dropAll(k)
		for i := 0; ; i++ {
			if _, e := k.Begin(0, []int{0}); e == api.ErrFull {
				break
			} else if e != api.OK || i > 100 {
				t.Fatalf("Begin = %d", e)
			}
			deliverAll(t, k)
			tick(t, k, 0)
			tick(t, k, 0)
			dropAll(k)
		}
		tick(t, k, 1)
		tick(t, k, 1)
		dropAll(k)
		tick(t, k, 0)
		deliverAll(t, k) // node 0 asks, and hears of the abort
		for _, e := range k.Trace(0) {
			if e.Kind == api.Applied && e.Txn == x && e.Outcome != api.Aborted {
				t.Errorf("the old one was not aborted")
			}
		}
		for range 50 {
			begin(t, k, 0, 0)
			deliverAll(t, k)
		}
	}
}

func TestP22WithoutEnd(t *testing.T) {
	for _, variant := range variants {
		k := start(t, conf(3, variant))
		for i := range 500 {
			k.Refuse(i%3, i%7 == 0)
			k.Refuse((i+1)%3, false)
			begin(t, k, i%3, 0, 1, 2)
			deliverAll(t, k)
			for node := range 3 {
				wantTable(t, k, node)
			}
		}
	}
}
