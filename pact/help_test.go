package pact_test

import (
	"slices"
	"testing"

	"pact/api"
	"pact/pact"
)

var variants = []int{api.Nothing, api.Abort, api.Commit}

func conf(nodes, variant int) api.Config {
	return api.Config{Nodes: nodes, Variant: variant, Ring: 2, PerSegment: 12, Patience: 2}
}

func start(t *testing.T, c api.Config) *pact.Cluster {
	t.Helper()
	k, e := pact.Start(c)
	if e != api.OK || k == nil {
		t.Fatalf("Start(%+v) = %v, %d", c, k, e)
	}
	return k
}

func tx(coord, inc, seq int) api.Txn { return api.Txn{Coord: coord, Inc: inc, Seq: seq} }

func begin(t *testing.T, k *pact.Cluster, node int, parts ...int) api.Txn {
	t.Helper()
	x, e := k.Begin(node, parts)
	if e != api.OK {
		t.Fatalf("Begin(%d, %v) = %v, %d", node, parts, x, e)
	}
	return x
}

func deliver(t *testing.T, k *pact.Cluster, indexes ...int) {
	t.Helper()
	for _, i := range indexes {
		if e := k.Deliver(i); e != api.OK {
			t.Fatalf("Deliver(%d) = %d", i, e)
		}
	}
}

func deliverAll(t *testing.T, k *pact.Cluster) {
	t.Helper()
	for i := 0; len(k.Net()) > 0; i++ {
		if i > 10000 {
			t.Fatal("messages without end")
		}
		deliver(t, k, 0)
	}
}

func dropAll(k *pact.Cluster) {
	for range k.Net() {
		k.Drop(0)
	}
}

func tick(t *testing.T, k *pact.Cluster, node int) {
	t.Helper()
	if e := k.Tick(node); e != api.OK {
		t.Fatalf("Tick(%d) = %d", node, e)
	}
}

func msg(kind, from, to int, x api.Txn) api.Message {
	return api.Message{Kind: kind, From: from, To: to, Txn: x}
}

func sent(kind, from, to int, x api.Txn) api.Event {
	return api.Event{Kind: api.Sent, Node: from, Txn: x, Message: msg(kind, from, to, x)}
}

func event(kind, node int, x api.Txn, outcome int) api.Event {
	return api.Event{Kind: kind, Node: node, Txn: x, Outcome: outcome}
}

func coordinates(x api.Txn, state, waits int) api.Entry {
	return api.Entry{Txn: x, Role: api.Coordinator, State: state, Waits: waits}
}

func prepared(x api.Txn) api.Entry {
	return api.Entry{Txn: x, Role: api.Participant, State: api.Prepared}
}

func wantNet(t *testing.T, k *pact.Cluster, want ...api.Message) {
	t.Helper()
	if got := k.Net(); !slices.Equal(got, want) {
		t.Fatalf("Net() = %+v, want %+v", got, want)
	}
}

func wantTrace(t *testing.T, k *pact.Cluster, from int, want ...api.Event) {
	t.Helper()
	if got := k.Trace(from); !slices.Equal(got, want) {
		t.Fatalf("Trace(%d) = %+v, want %+v", from, got, want)
	}
}

func wantTable(t *testing.T, k *pact.Cluster, node int, want ...api.Entry) {
	t.Helper()
	if got, e := k.Table(node); e != api.OK || !slices.Equal(got, want) {
		t.Fatalf("Table(%d) = %+v, %d, want %+v", node, got, e, want)
	}
}

func wantCosts(t *testing.T, k *pact.Cluster, node, forced, lazy, messages int) {
	t.Helper()
	want := api.Cost{Forced: forced, Lazy: lazy, Sent: messages}
	if got, e := k.Costs(node); e != api.OK || got != want {
		t.Fatalf("Costs(%d) = %+v, %d, want %+v", node, got, e, want)
	}
}

// view is all that a cluster tells.
type view struct {
	net    []api.Message
	trace  []api.Event
	tables [][]api.Entry
	costs  []api.Cost
	down   []int
}

func viewOf(k *pact.Cluster) view {
	v := view{net: k.Net(), trace: k.Trace(0)}
	for i := range api.MaxNodes {
		switch l, e := k.Table(i); e {
		case api.OK:
			v.tables = append(v.tables, l)
		case api.ErrDown:
			v.down = append(v.down, i)
		}
		if c, e := k.Costs(i); e == api.OK {
			v.costs = append(v.costs, c)
		}
	}
	return v
}

func wantView(t *testing.T, got, want view) {
	t.Helper()
	same := slices.Equal(got.net, want.net) && slices.Equal(got.trace, want.trace) && slices.Equal(got.costs, want.costs) &&
		slices.Equal(got.down, want.down) && slices.EqualFunc(got.tables, want.tables, slices.Equal)
	if !same {
		t.Fatalf("the cluster tells\n%+v\nwant\n%+v", got, want)
	}
}
