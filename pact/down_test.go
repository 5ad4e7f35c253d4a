package pact

import (
	"testing"

	"pact/api"
	"pact/node"
)

// halfDown is a cluster whose second node has no power: one that was not made with New has no journal.
func halfDown(t *testing.T) *Cluster {
	t.Helper()
	k, e := Start(api.Config{Nodes: 2, Variant: api.Nothing, Ring: 2, PerSegment: 12, Patience: 1})
	if e != api.OK {
		t.Fatalf("Start = %d", e)
	}
	k.nodes[1] = &node.Node{}
	return k
}

func TestP13ToP16OfANodeThatIsDown(t *testing.T) {
	k := halfDown(t)
	if x, e := k.Begin(1, []int{0}); x != (api.Txn{}) || e != api.ErrDown {
		t.Errorf("Begin = %v, %d, want ErrDown", x, e)
	}
	if _, e := k.Begin(1, []int{2}); e != api.ErrArg {
		t.Errorf("Begin with wrong parts = %d, want ErrArg", e)
	}
	if e := k.Tick(1); e != api.ErrDown {
		t.Errorf("Tick = %d, want ErrDown", e)
	}
	if l, e := k.Table(1); l != nil || e != api.ErrDown {
		t.Errorf("Table = %v, %d, want nil, ErrDown", l, e)
	}
	if _, e := k.Costs(1); e != api.OK {
		t.Errorf("Costs = %d, want OK", e)
	}
	if e := k.Refuse(1, true); e != api.OK {
		t.Errorf("Refuse = %d, want OK", e)
	}
}

func TestP14DeliverToANodeThatIsDown(t *testing.T) {
	k := halfDown(t)
	if _, e := k.Begin(0, []int{0, 1}); e != api.OK {
		t.Fatalf("Begin = %d", e)
	}
	if e := k.Deliver(1); e != api.OK {
		t.Errorf("Deliver = %d, want OK", e)
	}
	if len(k.Net()) != 1 || len(k.Trace(0)) != 2 {
		t.Errorf("on their way are %+v, events are %+v", k.Net(), k.Trace(0))
	}
}

func TestP15RoundWithoutANodeThatIsDown(t *testing.T) {
	k := halfDown(t)
	if _, e := k.Begin(0, []int{0}); e != api.OK {
		t.Fatalf("Begin = %d", e)
	}
	k.Round()
	if l := k.Net(); len(l) != 2 || l[1].Kind != api.DoAbort {
		t.Errorf("on their way are %+v", l)
	}
}
