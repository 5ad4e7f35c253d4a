package pact_test

import (
	"math/rand"
	"slices"
	"testing"

	"pact/api"
	"pact/pact"
)

func drawConfig(r *rand.Rand) api.Config {
	shapes := [][2]int{{2, 12}, {2, 13}, {3, 8}, {4, 6}, {5, 5}, {6, 4}, {6, 5}}
	s := shapes[r.Intn(len(shapes))]
	return api.Config{Nodes: 1 + r.Intn(api.MaxNodes), Variant: variants[r.Intn(3)], Ring: s[0], PerSegment: s[1], Patience: 1 + r.Intn(4)}
}

// twin is a cluster, and what it should be.
type twin struct {
	k *pact.Cluster
	m *model
}

func newTwin(t *testing.T, c api.Config) *twin {
	t.Helper()
	return &twin{k: start(t, c), m: newModel(c)}
}

func (w *twin) check(t *testing.T) {
	t.Helper()
	wantView(t, viewOf(w.k), w.m.view())
	for _, p := range w.m.nodes {
		if p.room() < 0 {
			t.Fatalf("node %d has written more records than there was room for", p.id)
		}
	}
}

func (w *twin) begin(t *testing.T, r *rand.Rand) {
	t.Helper()
	node, parts := r.Intn(w.m.c.Nodes), r.Perm(w.m.c.Nodes)[:1+r.Intn(w.m.c.Nodes)]
	if r.Intn(20) == 0 {
		parts = append(parts, r.Intn(api.MaxNodes+1)-1)
	}
	x, e := w.k.Begin(node, parts)
	if y, f := w.m.begin(node, parts); x != y || e != f {
		t.Fatalf("Begin(%d, %v) = %v, %d, want %v, %d", node, parts, x, e, y, f)
	}
}

func drawKeep(r *rand.Rand) []bool {
	keep := make([]bool, r.Intn(5))
	for i := range keep {
		keep[i] = r.Intn(3) > 0
	}
	return keep
}

// powerStep draws a call of P17 to P19.
func (w *twin) powerStep(t *testing.T, r *rand.Rand) {
	t.Helper()
	node := r.Intn(w.m.c.Nodes+2) - 1
	keep := drawKeep(r)
	handed := slices.Clone(keep)
	var got, want api.Errno
	switch r.Intn(6) {
	case 0:
		got, want = w.k.Crash(node, handed), w.m.crash(node, keep)
	case 1, 2:
		after := r.Intn(7) - 1
		got, want = w.k.Fuse(node, after, handed), w.m.setFuse(node, after, keep)
	default:
		got, want = w.k.Restart(node), w.m.restart(node)
	}
	if got != want {
		t.Fatalf("a call of P17 to P19 of node %d answers %d, want %d", node, got, want)
	}
	if !slices.Equal(handed, keep) {
		t.Fatalf("what was handed in is written into")
	}
	for i := range handed { // it is the caller's again
		handed[i] = !handed[i]
	}
}

// step draws a call; loss tells how many of ten messages that are taken are lost.
func (w *twin) step(t *testing.T, r *rand.Rand, loss int) {
	t.Helper()
	i := r.Intn(len(w.m.net)+2) - 1
	node := r.Intn(w.m.c.Nodes+2) - 1
	var got, want api.Errno
	switch k := r.Intn(60); {
	case k < 10:
		w.begin(t, r)
	case k < 13:
		got, want = w.k.Tick(node), w.m.tick(node)
	case k < 15:
		w.k.Round()
		w.m.round()
	case k < 17:
		on := r.Intn(4) == 0
		got = w.k.Refuse(node, on)
		want = api.ErrArg
		if w.m.isNode(node) {
			w.m.nodes[node].refuses, want = on, api.OK
		}
	case k < 20 && len(w.m.net) < 30:
		got, want = w.k.Copy(i), w.m.copy(i)
	case r.Intn(10) < loss:
		got, want = w.k.Drop(i), w.m.drop(i)
	default:
		got, want = w.k.Deliver(i), w.m.deliver(i)
	}
	if got != want {
		t.Fatalf("a call of message %d or node %d answers %d, want %d", i, node, got, want)
	}
}

func TestP20DrawnCalls(t *testing.T) {
	r := rand.New(rand.NewSource(5))
	for range 600 {
		w := newTwin(t, drawConfig(r))
		loss := r.Intn(6)
		for range 100 {
			w.step(t, r, loss)
			w.check(t)
		}
	}
}

// Long runs go round the ring many times.
func TestP22DrawnCalls(t *testing.T) {
	r := rand.New(rand.NewSource(6))
	for range 30 {
		w := newTwin(t, drawConfig(r))
		loss := r.Intn(3)
		for i := range 3000 {
			w.step(t, r, loss)
			if i%100 == 99 {
				w.check(t)
			}
		}
	}
}

func TestP17ToP19DrawnCalls(t *testing.T) {
	r := rand.New(rand.NewSource(8))
	for range 800 {
		w := newTwin(t, drawConfig(r))
		loss, power := r.Intn(4), 1+r.Intn(3)
		for range 150 {
			if r.Intn(10) < power {
				w.powerStep(t, r)
			} else {
				w.step(t, r, loss)
			}
			w.check(t)
		}
	}
}

// Long runs go round the ring many times, and through many incarnations.
func TestP17ToP19LongDrawnCalls(t *testing.T) {
	r := rand.New(rand.NewSource(9))
	for range 30 {
		w := newTwin(t, drawConfig(r))
		loss := r.Intn(3)
		for i := range 3000 {
			if r.Intn(20) == 0 {
				w.powerStep(t, r)
			} else {
				w.step(t, r, loss)
			}
			if i%100 == 99 {
				w.check(t)
			}
		}
	}
}

func TestP1ClustersHaveNothingToDoWithOneAnother(t *testing.T) {
	r := rand.New(rand.NewSource(7))
	for range 20 {
		var twins []*twin
		for range 3 {
			twins = append(twins, newTwin(t, drawConfig(r)))
		}
		for range 200 {
			if w := twins[r.Intn(3)]; r.Intn(8) == 0 {
				w.powerStep(t, r)
			} else {
				w.step(t, r, 2)
			}
			for _, w := range twins {
				w.check(t)
			}
		}
	}
}
