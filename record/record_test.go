package record_test

import (
	"bytes"
	"slices"
	"testing"

	"pact/api"
	"pact/record"
	"pact/set"
)

// numbers are those of which each byte is another, at all their places.
var numbers = []int{0, 1, 2, 255, 256, 1 << 16, 1 << 24, api.MaxNumber - 1, api.MaxNumber}

func transactions() []api.Txn {
	var all []api.Txn
	for coord := range api.MaxNodes {
		for _, inc := range numbers {
			for _, seq := range numbers {
				all = append(all, api.Txn{Coord: coord, Inc: inc, Seq: seq})
			}
		}
	}
	return all
}

func records() []record.Record {
	var all []record.Record
	for _, x := range transactions() {
		for kind := record.Init; kind <= record.Done; kind++ {
			all = append(all, record.Record{Kind: kind, Txn: x})
		}
		for _, outcome := range []int{api.Committed, api.Aborted} {
			all = append(all, record.Record{Kind: record.Done, Txn: x, Outcome: outcome})
		}
	}
	for nodes := range 1 << api.MaxNodes {
		all = append(all, record.Record{Kind: record.Abort, Txn: api.Txn{Inc: 7, Seq: 9}, Nodes: set.Set(nodes)})
	}
	return all
}

func TestKinds(t *testing.T) {
	kinds := []int{record.Init, record.Commit, record.Abort, record.End, record.Yes, record.Done}
	if !slices.Equal(kinds, []int{1, 2, 3, 4, 5, 6}) {
		t.Errorf("the kinds are %v", kinds)
	}
}

func TestPackedRecordsDiffer(t *testing.T) {
	seen := map[string]record.Record{}
	for _, r := range records() {
		b := r.Pack()
		if len(b) > api.MaxRecord {
			t.Fatalf("%+v has %d bytes", r, len(b))
		}
		if other, ok := seen[string(b)]; ok && other != r {
			t.Fatalf("%+v and %+v are packed alike", r, other)
		}
		seen[string(b)] = r
	}
}

func TestPackedMarksDiffer(t *testing.T) {
	seen := map[string]record.Marks{}
	for _, x := range transactions() {
		for coord := range api.MaxNodes {
			var m record.Marks
			m[x.Coord] = x
			m[coord] = api.Txn{Coord: coord, Inc: 3, Seq: 4}
			b := m.Pack()
			if len(b) > api.MaxRecord {
				t.Fatalf("the note has %d bytes", len(b))
			}
			other, ok := seen[string(b)]
			for c := range api.MaxNodes {
				if ok && (other[c].Inc != m[c].Inc || other[c].Seq != m[c].Seq) {
					t.Fatalf("%+v and %+v are packed alike", m, other)
				}
			}
			seen[string(b)] = m
		}
	}
}

func TestPackIsNewMemory(t *testing.T) {
	r := record.Record{Kind: record.Commit, Txn: api.Txn{Coord: 1, Inc: 2, Seq: 3}, Nodes: 6}
	m := record.Marks{1: r.Txn}
	b, c := r.Pack(), m.Pack()
	d, e := bytes.Clone(b), bytes.Clone(c)
	clear(b[:cap(b)])
	clear(c[:cap(c)])
	if !bytes.Equal(r.Pack(), d) || !bytes.Equal(m.Pack(), e) {
		t.Errorf("what was packed ahead is written into")
	}
}

func TestCompare(t *testing.T) {
	sign := func(c int) int { return min(max(c, -1), 1) }
	all := transactions()
	for i, a := range all { // they are in their order
		for j, b := range all {
			want := sign(i - j)
			if got := sign(record.Compare(a, b)); got != want {
				t.Fatalf("Compare(%v, %v) = %d, want %d", a, b, got, want)
			}
		}
	}
}

func TestMarks(t *testing.T) {
	var m record.Marks
	for coord := range api.MaxNodes {
		if m.Has(api.Txn{Coord: coord, Inc: 1, Seq: 1}) {
			t.Errorf("the first transaction of node %d is marked at first", coord)
		}
	}
	m[2] = api.Txn{Coord: 2, Inc: 3, Seq: 5}
	for _, c := range []struct {
		x    api.Txn
		want bool
	}{
		{api.Txn{Coord: 2, Inc: 3, Seq: 5}, true},
		{api.Txn{Coord: 2, Inc: 3, Seq: 4}, true},
		{api.Txn{Coord: 2, Inc: 3, Seq: 6}, false},
		{api.Txn{Coord: 2, Inc: 2, Seq: 9}, true},
		{api.Txn{Coord: 2, Inc: 4, Seq: 1}, false},
		{api.Txn{Coord: 1, Inc: 1, Seq: 1}, false},
		{api.Txn{Coord: 3, Inc: 1, Seq: 1}, false},
	} {
		if m.Has(c.x) != c.want {
			t.Errorf("Has(%v) = %v", c.x, m.Has(c.x))
		}
	}
}
