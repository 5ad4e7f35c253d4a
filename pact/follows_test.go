package pact_test

import (
	"math"
	"math/rand"
	"slices"
	"testing"

	"pact/api"
	"pact/pact"
)

type vote struct {
	node int
	x    api.Txn
}

// told is what the events tell of transactions.
type told struct {
	outcomes map[api.Txn]int
	parts    map[api.Txn][]int
	yes, no  map[vote]bool
	applied  map[vote]bool
}

// wantOneOutcome checks P23 and P24.
func wantOneOutcome(t *testing.T, events []api.Event) told {
	t.Helper()
	s := told{map[api.Txn]int{}, map[api.Txn][]int{}, map[vote]bool{}, map[vote]bool{}, map[vote]bool{}}
	for i, e := range events {
		v := vote{e.Node, e.Txn}
		switch {
		case e.Message.Kind == api.Prepare:
			s.parts[e.Txn] = append(s.parts[e.Txn], e.Message.To)
		case e.Message.Kind == api.Yes:
			s.yes[v] = true
		case e.Message.Kind == api.No:
			s.no[v] = true
		case e.Kind == api.Told || e.Kind == api.Applied:
			if o := s.outcomes[e.Txn]; o != 0 && o != e.Outcome {
				t.Fatalf("P23: event %d: two outcomes of %v", i, e.Txn)
			}
			s.outcomes[e.Txn] = e.Outcome
			wantVotes(t, s, e)
			if e.Kind == api.Applied {
				s.applied[v] = true
			}
		}
	}
	return s
}

func wantVotes(t *testing.T, s told, e api.Event) {
	t.Helper()
	if e.Outcome != api.Committed {
		return
	}
	for _, p := range s.parts[e.Txn] {
		if !s.yes[vote{p, e.Txn}] {
			t.Fatalf("P24: %v is committed, and node %d has not sent Yes", e.Txn, p)
		}
	}
	if e.Kind == api.Applied && s.no[vote{e.Node, e.Txn}] {
		t.Fatalf("P24: node %d has sent No of %v, and applies Committed", e.Node, e.Txn)
	}
}

// wantPrepared checks P25.
func wantPrepared(t *testing.T, k *pact.Cluster, s told) {
	t.Helper()
	for v := range s.yes {
		l, e := k.Table(v.node)
		if e == api.OK && !s.applied[v] && !slices.Contains(l, prepared(v.x)) {
			t.Fatalf("P25: node %d has sent Yes of %v, and has it not prepared: %+v", v.node, v.x, l)
		}
	}
}

func wantSafe(t *testing.T, k *pact.Cluster) {
	t.Helper()
	wantPrepared(t, k, wantOneOutcome(t, k.Trace(0)))
}

// wantSettled checks P26, and all else; messages are delivered as pick says.
func wantSettled(t *testing.T, k *pact.Cluster, c api.Config, pick func(n int) int) {
	t.Helper()
	for node := range c.Nodes {
		if k.Fuse(node, math.MaxInt, nil) == api.ErrDown {
			restart(t, k, node)
		}
	}
	for range c.Patience + 3 {
		k.Round()
		for i := 0; len(k.Net()) > 0; i++ {
			if i > 10000 {
				t.Fatal("messages without end")
			}
			deliver(t, k, pick(len(k.Net())))
		}
	}
	for node := range c.Nodes {
		wantTable(t, k, node)
	}
	s := wantOneOutcome(t, k.Trace(0))
	for v := range s.yes {
		if !s.applied[v] {
			t.Fatalf("P26: node %d has sent Yes of %v, and applied no outcome", v.node, v.x)
		}
	}
}

func first(int) int { return 0 }

func last(n int) int { return n - 1 }

// drawCall makes a call of any kind.
func drawCall(k *pact.Cluster, c api.Config, r *rand.Rand, power int) {
	i, node := r.Intn(len(k.Net())+1), r.Intn(c.Nodes)
	switch n := r.Intn(40); {
	case n < 6:
		k.Begin(node, r.Perm(c.Nodes)[:1+r.Intn(c.Nodes)])
	case n < 8:
		k.Round()
	case n < 10:
		k.Tick(node)
	case n < 12:
		k.Refuse(node, r.Intn(3) == 0)
	case n < 14:
		k.Drop(i)
	case n < 17 && len(k.Net()) < 40:
		k.Copy(i)
	case n < 17+power:
		switch r.Intn(5) {
		case 0:
			k.Crash(node, drawKeep(r))
		case 1:
			k.Fuse(node, r.Intn(5), drawKeep(r))
		default:
			k.Restart(node)
		}
	default:
		k.Deliver(i)
	}
}

func TestP23ToP26DrawnCalls(t *testing.T) {
	r := rand.New(rand.NewSource(10))
	for range 1000 {
		c := drawConfig(r)
		k := start(t, c)
		power := r.Intn(12)
		for i := range 40 + r.Intn(200) {
			drawCall(k, c, r, power)
			if i%5 == 0 {
				wantSafe(t, k)
			}
		}
		wantSafe(t, k)
		wantSettled(t, k, c, r.Intn)
	}
}

func TestP23ToP26LongDrawnCalls(t *testing.T) {
	r := rand.New(rand.NewSource(11))
	for range 30 {
		c := drawConfig(r)
		k := start(t, c)
		for range 5 {
			for range 500 {
				drawCall(k, c, r, 4)
			}
			wantSettled(t, k, c, r.Intn)
		}
	}
}

// One power fails, at each place and with each keep, in transactions among three nodes that go well, or in which one votes no.
func TestP23ToP26OneFailureAnywhere(t *testing.T) {
	for _, variant := range variants {
		for refuser := -1; refuser < 3; refuser++ {
			for node := range 3 {
				for after := range 8 {
					for keep := range 8 {
						failOnce(t, variant, refuser, node, after, []bool{keep&1 > 0, keep&2 > 0, keep&4 > 0})
					}
				}
			}
		}
	}
}

func failOnce(t *testing.T, variant, refuser, node, after int, keep []bool) {
	t.Helper()
	for _, pick := range []func(int) int{first, last} {
		c := conf(3, variant)
		k := start(t, c)
		k.Refuse(refuser, true)
		fuse(t, k, node, after, keep...)
		k.Begin(0, []int{0, 1, 2})
		k.Begin(2, []int{1, 2})
		for len(k.Net()) > 0 {
			k.Deliver(pick(len(k.Net())))
			wantSafe(t, k)
		}
		wantSettled(t, k, c, pick)
	}
}

// A crash between any two messages, and then another one.
func TestP23ToP26TwoCrashesAnywhere(t *testing.T) {
	for _, variant := range variants {
		for node := range 2 {
			for at := range 9 {
				for again := range 7 {
					for back := range 2 {
						crashTwice(t, variant, node, at, again, back)
					}
				}
			}
		}
	}
}

// crashTwice: the node is down for so many messages.
func crashTwice(t *testing.T, variant, node, at, again, back int) {
	t.Helper()
	c := conf(2, variant)
	k := start(t, c)
	begin(t, k, 0, 0, 1)
	for i := range 40 {
		if i == at || i == at+again+back {
			k.Crash(node, []bool{i%2 == 0})
		}
		if i == at+back || i == at+again+2*back {
			k.Restart(node)
			k.Round()
		}
		k.Deliver(0)
		wantSafe(t, k)
	}
	wantSettled(t, k, c, first)
}
