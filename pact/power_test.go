package pact_test

import (
	"math"
	"slices"
	"testing"

	"pact/api"
	"pact/pact"
)

func crash(t *testing.T, k *pact.Cluster, node int, keep ...bool) {
	t.Helper()
	if e := k.Crash(node, keep); e != api.OK {
		t.Fatalf("Crash(%d, %v) = %d", node, keep, e)
	}
}

func fuse(t *testing.T, k *pact.Cluster, node, after int, keep ...bool) {
	t.Helper()
	if e := k.Fuse(node, after, keep); e != api.OK {
		t.Fatalf("Fuse(%d, %d, %v) = %d", node, after, keep, e)
	}
}

func restart(t *testing.T, k *pact.Cluster, node int) {
	t.Helper()
	if e := k.Restart(node); e != api.OK {
		t.Fatalf("Restart(%d) = %d", node, e)
	}
}

func crashAndRestart(t *testing.T, k *pact.Cluster, node int, keep ...bool) {
	t.Helper()
	crash(t, k, node, keep...)
	restart(t, k, node)
}

// deliverPower: the power fails as message i is delivered.
func deliverPower(t *testing.T, k *pact.Cluster, i int) {
	t.Helper()
	if e := k.Deliver(i); e != api.ErrPower {
		t.Fatalf("Deliver(%d) = %d, want ErrPower", i, e)
	}
}

func crashed(node int) api.Event   { return api.Event{Kind: api.Crashed, Node: node} }
func restarted(node int) api.Event { return api.Event{Kind: api.Restarted, Node: node} }

func TestP17Crash(t *testing.T) {
	for _, variant := range variants {
		k := start(t, conf(3, variant))
		x := begin(t, k, 1, 0)
		k.Refuse(0, true)
		before, was := k.Trace(0), viewOf(k)
		crash(t, k, 0)
		wantTrace(t, k, len(before), crashed(0))
		wantNet(t, k, msg(api.Prepare, 1, 0, x)) // what is on its way stays so
		was.trace, was.tables, was.down = append(was.trace, crashed(0)), was.tables[1:], []int{0}
		wantView(t, viewOf(k), was)
		restart(t, k, 0)
		wantTrace(t, k, len(before), crashed(0), restarted(0))
		deliver(t, k, 0)
		wantNet(t, k, msg(api.No, 0, 1, x)) // how it votes has nothing to do with its power
	}
}

// A node that is down forgets what it began without a record, and its numbers.
func TestP17Forgets(t *testing.T) {
	for _, variant := range []int{api.Nothing, api.Abort} {
		k := start(t, conf(2, variant))
		begin(t, k, 0, 1)
		begin(t, k, 0, 1)
		tick(t, k, 0)
		crashAndRestart(t, k, 0)
		wantTable(t, k, 0)
		wantCosts(t, k, 0, 0, 0, 2)
		if x := begin(t, k, 0, 1); x != tx(0, 2, 1) {
			t.Errorf("the first transaction of the second incarnation is %v", x)
		}
		before := len(k.Trace(0))
		tick(t, k, 0) // one tick of two: its patience is its own
		wantTrace(t, k, before)
	}
}

func TestP17Keep(t *testing.T) {
	for _, c := range []struct {
		keep []bool
		left int // of three lazy records
	}{
		{nil, 0}, {[]bool{false}, 0}, {[]bool{false, true, true}, 0},
		{[]bool{true}, 1}, {[]bool{true, false, true}, 1}, {[]bool{true, true}, 2}, {[]bool{true, true, false}, 2},
		{[]bool{true, true, true}, 3}, {[]bool{true, true, true, true, false, true}, 3},
	} {
		k := start(t, conf(2, api.Commit))
		var want []api.Entry
		for i := range 3 {
			if x := begin(t, k, 0, 1); i >= c.left {
				want = append(want, prepared(x))
			}
		}
		deliverAll(t, k) // node 1 has three Yes, then three lazy Done
		wantTable(t, k, 1)
		handed := slices.Clone(c.keep)
		crashAndRestart(t, k, 1, handed...)
		wantTable(t, k, 1, want...)
		if !slices.Equal(handed, c.keep) {
			t.Errorf("keep was written into: %v", handed)
		}
	}
}

// down is a cluster whose node 1 of three is down.
func down(t *testing.T) *pact.Cluster {
	t.Helper()
	k := start(t, conf(3, api.Nothing))
	begin(t, k, 0, 0, 1)
	crash(t, k, 1)
	return k
}

func TestP13ToP18OfANodeThatIsDown(t *testing.T) {
	k := down(t)
	was := viewOf(k)
	if x, e := k.Begin(1, []int{0}); x != (api.Txn{}) || e != api.ErrDown {
		t.Errorf("Begin = %v, %d, want ErrDown", x, e)
	}
	if x, e := k.Begin(1, []int{3}); x != (api.Txn{}) || e != api.ErrArg {
		t.Errorf("Begin with wrong parts = %v, %d, want ErrArg", x, e)
	}
	if e := k.Tick(1); e != api.ErrDown {
		t.Errorf("Tick = %d, want ErrDown", e)
	}
	if l, e := k.Table(1); l != nil || e != api.ErrDown {
		t.Errorf("Table = %v, %d, want nil, ErrDown", l, e)
	}
	if e := k.Crash(1, []bool{true}); e != api.ErrDown {
		t.Errorf("Crash = %d, want ErrDown", e)
	}
	if e := k.Fuse(1, 0, nil); e != api.ErrDown {
		t.Errorf("Fuse = %d, want ErrDown", e)
	}
	if e := k.Fuse(1, -1, nil); e != api.ErrArg {
		t.Errorf("Fuse behind less than nothing = %d, want ErrArg", e)
	}
	if c, e := k.Costs(1); c != (api.Cost{}) || e != api.OK {
		t.Errorf("Costs = %v, %d, want OK", c, e)
	}
	if e := k.Refuse(1, true); e != api.OK {
		t.Errorf("Refuse = %d, want OK", e)
	}
	wantView(t, viewOf(k), was)
	restart(t, k, 1)
	deliver(t, k, 1)
	wantNet(t, k, msg(api.Prepare, 0, 0, tx(0, 1, 1)), msg(api.No, 1, 0, tx(0, 1, 1)))
}

func TestP14DeliverToANodeThatIsDown(t *testing.T) {
	k := down(t)
	before := len(k.Trace(0))
	deliver(t, k, 1)
	wantNet(t, k, msg(api.Prepare, 0, 0, tx(0, 1, 1)))
	wantTrace(t, k, before)
	restart(t, k, 1)
	wantTable(t, k, 1)
}

func TestP15RoundWithoutANodeThatIsDown(t *testing.T) {
	k := down(t)
	dropAll(k)
	before := len(k.Trace(0))
	k.Round()
	k.Round()
	x := tx(0, 1, 1)
	wantTrace(t, k, before, event(api.Told, 0, x, api.Aborted), sent(api.DoAbort, 0, 0, x), sent(api.DoAbort, 0, 1, x))
}

func TestP16CostsOfANodeThatIsDown(t *testing.T) {
	k := start(t, conf(2, api.Commit))
	begin(t, k, 0, 1)
	deliverAll(t, k)
	crash(t, k, 0)
	crash(t, k, 1)
	wantCosts(t, k, 0, 2, 0, 2)
	wantCosts(t, k, 1, 1, 1, 1)
	restart(t, k, 0)
	restart(t, k, 1)
	wantCosts(t, k, 0, 2, 0, 2)
	wantCosts(t, k, 1, 1, 1, 1)
}

func TestP17ToP19Wrong(t *testing.T) {
	k := start(t, conf(2, api.Commit))
	begin(t, k, 0, 1)
	was := viewOf(k)
	for _, n := range append(extremes, 2) {
		for _, keep := range [][]bool{nil, {true}} {
			if a, b, c, d := k.Crash(n, keep), k.Fuse(n, 0, keep), k.Fuse(n, -1, keep), k.Restart(n); a != api.ErrArg || b != api.ErrArg || c != api.ErrArg || d != api.ErrArg {
				t.Errorf("of node %d: %d, %d, %d, %d, want ErrArg", n, a, b, c, d)
			}
		}
	}
	for _, after := range []int{-1, -2, math.MinInt} {
		if e := k.Fuse(0, after, nil); e != api.ErrArg {
			t.Errorf("Fuse(0, %d) = %d, want ErrArg", after, e)
		}
	}
	for n := range 2 {
		if e := k.Restart(n); e != api.ErrUp {
			t.Errorf("Restart(%d) = %d, want ErrUp", n, e)
		}
	}
	wantView(t, viewOf(k), was)
	deliverAll(t, k) // no fuse was set
}

// A call that is refused leaves the fuse that there was.
func TestP18AWrongFuseChangesNothing(t *testing.T) {
	k := start(t, conf(2, api.Commit))
	fuse(t, k, 0, 0)
	k.Fuse(0, -1, nil)
	k.Fuse(2, 5, nil)
	if x, e := k.Begin(0, []int{1}); x != (api.Txn{}) || e != api.ErrPower {
		t.Errorf("Begin = %v, %d, want ErrPower", x, e)
	}
}

func TestP18InABegin(t *testing.T) {
	k := start(t, conf(2, api.Commit))
	begin(t, k, 0, 1)
	fuse(t, k, 0, 1)
	y := begin(t, k, 0, 1)
	before := len(k.Trace(0))
	if x, e := k.Begin(0, []int{1}); x != (api.Txn{}) || e != api.ErrPower {
		t.Fatalf("Begin = %v, %d, want ErrPower", x, e)
	}
	wantTrace(t, k, before, crashed(0))
	wantCosts(t, k, 0, 2, 0, 2)
	restart(t, k, 0)
	wantTable(t, k, 0, coordinates(tx(0, 1, 1), api.Aborting, 2), coordinates(y, api.Aborting, 2))
	if x := begin(t, k, 0, 1); x != tx(0, 2, 1) {
		t.Errorf("the next transaction is %v", x)
	}
}

// Where Begin writes nothing, no power fails in it.
func TestP18BeginWithoutARecord(t *testing.T) {
	for _, variant := range []int{api.Nothing, api.Abort} {
		k := start(t, conf(2, variant))
		fuse(t, k, 0, 0)
		begin(t, k, 0, 1)
		deliver(t, k, 0)
		deliverPower(t, k, 0)
	}
}

// wantFailure: in a transaction from node 0 to node 1, the power of a node fails as this message comes to it.
func wantFailure(t *testing.T, variant, node, after, kind int, refuses bool) {
	t.Helper()
	k := start(t, conf(2, variant))
	k.Refuse(1, refuses)
	x := begin(t, k, 0, 1)
	fuse(t, k, node, after)
	for i := 0; ; i++ {
		if i > 10 || len(k.Net()) != 1 {
			t.Fatalf("no power has failed; on their way are %+v", k.Net())
		}
		m, before := k.Net()[0], len(k.Trace(0))
		was, _ := k.Costs(node)
		e := k.Deliver(0)
		if e == api.OK {
			continue
		}
		if e != api.ErrPower || m != msg(kind, 1-node, node, x) {
			t.Fatalf("Deliver of %+v = %d, want ErrPower at kind %d", m, e, kind)
		}
		wantNet(t, k)
		wantTrace(t, k, before, crashed(node))
		wantCosts(t, k, node, was.Forced, was.Lazy, was.Sent)
		return
	}
}

func TestP18AtEachRecord(t *testing.T) {
	for _, variant := range variants {
		wantFailure(t, variant, 1, 0, api.Prepare, false)
		wantFailure(t, variant, 1, 1, api.DoCommit, false)
		wantFailure(t, variant, 0, 0, api.Yes, false)
	}
	wantFailure(t, api.Nothing, 0, 1, api.Ack, false)
	wantFailure(t, api.Abort, 0, 1, api.Ack, false)
	wantFailure(t, api.Nothing, 0, 0, api.No, true)
}

// What was done ahead of the failure in the same call stands.
func TestP18InTheMidstOfACall(t *testing.T) {
	k := start(t, conf(2, api.Nothing))
	k.Refuse(1, true)
	x := begin(t, k, 0, 1)
	fuse(t, k, 0, 1)
	deliver(t, k, 0)
	before := len(k.Trace(0))
	deliverPower(t, k, 0) // the Abort is written, the End is not
	wantTrace(t, k, before, event(api.Told, 0, x, api.Aborted), crashed(0))
	wantCosts(t, k, 0, 1, 0, 1)
	restart(t, k, 0)
	wantTable(t, k, 0) // an Abort without nodes is not open
}

// threeThatWait has three transactions of node 0 whose patience ends with the next Tick, and one prepared by it.
func threeThatWait(t *testing.T) *pact.Cluster {
	t.Helper()
	k := start(t, conf(3, api.Nothing))
	begin(t, k, 2, 0)
	deliver(t, k, 0)
	for range 3 {
		begin(t, k, 0, 1, 2)
	}
	k.Round()
	dropAll(k)
	return k
}

// eventsOfThree tells what is done for the first so many of them.
func eventsOfThree(aborted int) []api.Event {
	var l []api.Event
	for seq := 1; seq <= aborted; seq++ {
		x := tx(0, 1, seq)
		l = append(l, event(api.Told, 0, x, api.Aborted), sent(api.DoAbort, 0, 1, x), sent(api.DoAbort, 0, 2, x))
	}
	return l
}

func TestP18InATick(t *testing.T) {
	for after := range 3 {
		k := threeThatWait(t)
		fuse(t, k, 0, after)
		before := len(k.Trace(0))
		if e := k.Tick(0); e != api.ErrPower {
			t.Fatalf("Tick = %d, want ErrPower", e)
		}
		wantTrace(t, k, before, append(eventsOfThree(after), crashed(0))...)
		if l := k.Net(); len(l) != 2*after {
			t.Fatalf("on their way are %+v", l)
		}
		restart(t, k, 0)
		var want []api.Entry
		for seq := 1; seq <= after; seq++ {
			want = append(want, coordinates(tx(0, 1, seq), api.Aborting, 6))
		}
		wantTable(t, k, 0, append(want, prepared(tx(2, 1, 1)))...)
	}
}

// In a Round, the power of one node ends its part alone; the events stand in the order of the nodes.
func TestP18InARound(t *testing.T) {
	for after := range 5 {
		k := threeThatWait(t)
		fuse(t, k, 0, after)
		before := len(k.Trace(0))
		k.Round()
		y := tx(2, 1, 1)
		end := []api.Event{crashed(0)}
		if after >= 3 {
			end = []api.Event{sent(api.Inquiry, 0, 2, y)}
		}
		want := append(eventsOfThree(min(after, 3)), end...)
		want = append(want, event(api.Told, 2, y, api.Aborted), sent(api.DoAbort, 2, 0, y))
		wantTrace(t, k, before, want...)
		wantDown := api.OK
		if after < 3 {
			wantDown = api.ErrDown
		}
		if _, e := k.Table(0); e != wantDown {
			t.Fatalf("Table(0) = %d, want %d", e, wantDown)
		}
	}
}

// All powers fail in one Round.
func TestP18OfAllInARound(t *testing.T) {
	for range 50 {
		k := start(t, conf(4, api.Nothing))
		for node := range 4 {
			begin(t, k, node, 0, 1, 2, 3)
			fuse(t, k, node, 0)
		}
		k.Round()
		before := len(k.Trace(0))
		k.Round()
		wantTrace(t, k, before, crashed(0), crashed(1), crashed(2), crashed(3))
	}
}

// Appends are counted from the Fuse on, through all calls.
func TestP18Counts(t *testing.T) {
	for after := range 8 {
		k := start(t, conf(2, api.Nothing))
		begin(t, k, 0, 1)
		deliverAll(t, k)
		fuse(t, k, 1, after)
		for i := range after + 1 { // Yes and Done of one transaction after the other
			if i%2 == 0 {
				begin(t, k, 0, 1)
			} else {
				deliver(t, k, 0)
			}
			if i == after {
				deliverPower(t, k, 0)
				continue
			}
			deliver(t, k, 0)
			if i%2 == 1 {
				deliverAll(t, k)
			}
		}
		wantCosts(t, k, 1, 2+after, 0, 2+after)
	}
}

// A marking, and what a node does for its journal, are no appends.
func TestP18MarkingIsNoAppend(t *testing.T) {
	for _, variant := range variants {
		k := start(t, conf(2, variant))
		fuse(t, k, 1, 0)
		k.Refuse(1, true)
		for range 30 {
			begin(t, k, 0, 1)
			deliverAll(t, k)
		}
		wantCosts(t, k, 1, 30, 0, 30)
		k.Refuse(1, false)
		begin(t, k, 0, 1)
		deliverPower(t, k, 0)
	}
}

func TestP18ANewFuse(t *testing.T) {
	k := start(t, conf(2, api.Commit))
	fuse(t, k, 0, 0, true)
	fuse(t, k, 0, 2)
	begin(t, k, 0, 1)
	begin(t, k, 0, 1)
	fuse(t, k, 0, 1)
	begin(t, k, 0, 1)
	if _, e := k.Begin(0, []int{1}); e != api.ErrPower {
		t.Errorf("Begin = %d, want ErrPower", e)
	}
}

func TestP18ACrashTakesItAway(t *testing.T) {
	for _, byFuse := range []bool{false, true} {
		k := start(t, conf(2, api.Commit))
		fuse(t, k, 0, 0)
		if byFuse {
			k.Begin(0, []int{1})
		} else {
			crash(t, k, 0)
		}
		restart(t, k, 0)
		for range 4 {
			begin(t, k, 0, 1)
		}
	}
}

func TestP18OfOneNodeAlone(t *testing.T) {
	k := start(t, conf(2, api.Commit))
	fuse(t, k, 1, 0)
	begin(t, k, 0, 0)
	deliverAll(t, k)
	crashAndRestart(t, k, 0) // takes no other's fuse away
	begin(t, k, 0, 1)
	deliverPower(t, k, 0)
}

func TestP18AtNoTime(t *testing.T) {
	k := start(t, conf(2, api.Nothing))
	fuse(t, k, 0, math.MaxInt)
	fuse(t, k, 1, math.MaxInt)
	for range 100 {
		begin(t, k, 0, 0, 1)
		deliverAll(t, k)
	}
}

func TestP18Keep(t *testing.T) {
	for _, c := range []struct {
		keep []bool
		left int // of two lazy records
	}{
		{nil, 0}, {[]bool{false, true}, 0}, {[]bool{true}, 1}, {[]bool{true, false}, 1}, {[]bool{true, true}, 2}, {[]bool{true, true, true}, 2},
	} {
		k := start(t, conf(2, api.Commit))
		var want []api.Entry
		for i := range 2 {
			if x := begin(t, k, 0, 1); i >= c.left {
				want = append(want, prepared(x))
			}
		}
		deliver(t, k, 0, 0, 0, 0)
		handed := slices.Clone(c.keep)
		fuse(t, k, 1, 2, handed...)
		if !slices.Equal(handed, c.keep) {
			t.Errorf("keep was written into: %v", handed)
		}
		for i := range handed { // it is the caller's again
			handed[i] = !handed[i]
		}
		deliver(t, k, 0, 0)
		wantTable(t, k, 1)
		begin(t, k, 0, 1)
		deliverPower(t, k, 0)
		restart(t, k, 1)
		wantTable(t, k, 1, want...)
	}
}
