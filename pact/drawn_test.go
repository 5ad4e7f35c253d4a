package pact_test

import (
	"math/rand"
	"testing"

	"pact/api"
	"pact/pact"
)

func drawConfig(r *rand.Rand) api.Config {
	shapes := [][2]int{{2, 12}, {2, 13}, {3, 8}, {4, 6}, {5, 5}, {6, 4}, {6, 5}}
	s := shapes[r.Intn(len(shapes))]
	return api.Config{Nodes: 1 + r.Intn(api.MaxNodes), Variant: variants[r.Intn(3)], Ring: s[0], PerSegment: s[1], Patience: 1 + r.Intn(4)}
}

// twin is a cluster, and what it should be.
type twin struct {
	k *pact.Cluster
	m *model
}

func newTwin(t *testing.T, c api.Config) *twin {
	t.Helper()
	return &twin{k: start(t, c), m: newModel(c)}
}

func (w *twin) check(t *testing.T) {
	t.Helper()
	wantView(t, viewOf(w.k), w.m.view())
	for _, p := range w.m.nodes {
		if p.room() < 0 {
			t.Fatalf("node %d has written more records than there was room for", p.id)
		}
	}
}

func (w *twin) begin(t *testing.T, r *rand.Rand) {
	t.Helper()
	node, parts := r.Intn(w.m.c.Nodes), r.Perm(w.m.c.Nodes)[:1+r.Intn(w.m.c.Nodes)]
	if r.Intn(20) == 0 {
		parts = append(parts, r.Intn(api.MaxNodes+1)-1)
	}
	x, e := w.k.Begin(node, parts)
	if y, f := w.m.begin(node, parts); x != y || e != f {
		t.Fatalf("Begin(%d, %v) = %v, %d, want %v, %d", node, parts, x, e, y, f)
	}
}

// step draws a call; loss tells how many of ten messages that are taken are lost.
func (w *twin) step(t *testing.T, r *rand.Rand, loss int) {
	t.Helper()
	i := r.Intn(len(w.m.net)+2) - 1
	node := r.Intn(w.m.c.Nodes+2) - 1
	var got, want api.Errno
	switch k := r.Intn(60); {
	case k < 10:
		w.begin(t, r)
	case k < 13:
		got, want = w.k.Tick(node), w.m.tick(node)
	case k < 15:
		w.k.Round()
		w.m.round()
	case k < 17:
		on := r.Intn(4) == 0
		got = w.k.Refuse(node, on)
		want = api.ErrArg
		if w.m.isNode(node) {
			w.m.nodes[node].refuses, want = on, api.OK
		}
	case k < 20 && len(w.m.net) < 30:
		got, want = w.k.Copy(i), w.m.copy(i)
	case r.Intn(10) < loss:
		got, want = w.k.Drop(i), w.m.drop(i)
	default:
		got, want = w.k.Deliver(i), w.m.deliver(i)
	}
	if got != want {
		t.Fatalf("a call of message %d or node %d answers %d, want %d", i, node, got, want)
	}
}

func TestP20DrawnCalls(t *testing.T) {
	r := rand.New(rand.NewSource(5))
	for range 600 {
		w := newTwin(t, drawConfig(r))
		loss := r.Intn(6)
		for range 100 {
			w.step(t, r, loss)
			w.check(t)
		}
	}
}

// Long runs go round the ring many times.
func TestP22DrawnCalls(t *testing.T) {
	r := rand.New(rand.NewSource(6))
	for range 30 {
		w := newTwin(t, drawConfig(r))
		loss := r.Intn(3)
		for i := range 3000 {
			w.step(t, r, loss)
			if i%100 == 99 {
				w.check(t)
			}
		}
	}
}

func TestP1ClustersHaveNothingToDoWithOneAnother(t *testing.T) {
	r := rand.New(rand.NewSource(7))
	for range 20 {
		var twins []*twin
		for range 3 {
			twins = append(twins, newTwin(t, drawConfig(r)))
		}
		for range 200 {
			twins[r.Intn(3)].step(t, r, 2)
			for _, w := range twins {
				w.check(t)
			}
		}
	}
}
