package record_test

import (
	"bytes"
	"slices"
	"testing"

	"pact/api"
	"pact/record"
	"pact/set"
)

// numbers are those of which each byte is another, at all their places.
var numbers = []int{0, 1, 2, 255, 256, 1 << 16, 1 << 24, api.MaxNumber - 1, api.MaxNumber}

func transactions() []api.Txn {
	var all []api.Txn
	for coord := range api.MaxNodes {
		for _, inc := range numbers {
			for _, seq := range numbers {
				all = append(all, api.Txn{Coord: coord, Inc: inc, Seq: seq})
			}
		}
	}
	return all
}

func records() []record.Record {
	var all []record.Record
	for _, x := range transactions() {
		for kind := record.Init; kind <= record.Done; kind++ {
			all = append(all, record.Record{Kind: kind, Txn: x})
		}
		for _, outcome := range []int{api.Committed, api.Aborted} {
			all = append(all, record.Record{Kind: record.Done, Txn: x, Outcome: outcome})
		}
	}
	for nodes := range 1 << api.MaxNodes {
		all = append(all, record.Record{Kind: record.Abort, Txn: api.Txn{Inc: 7, Seq: 9}, Nodes: set.Set(nodes)})
	}
	return all
}

func TestKinds(t *testing.T) {
	kinds := []int{record.Init, record.Commit, record.Abort, record.End, record.Yes, record.Done}
	if !slices.Equal(kinds, []int{1, 2, 3, 4, 5, 6}) {
		t.Errorf("the kinds are %v", kinds)
	}
}

func TestPackedRecordsDiffer(t *testing.T) {
	seen := map[string]record.Record{}
	for _, r := range records() {
		b := r.Pack()
		if len(b) > api.MaxRecord {
			t.Fatalf("%+v has %d bytes", r, len(b))
		}
		if other, ok := seen[string(b)]; ok && other != r {
			t.Fatalf("%+v and %+v are packed alike", r, other)
		}
		seen[string(b)] = r
	}
}

func TestPackedMarksDiffer(t *testing.T) {
	seen := map[string]record.Marks{}
	for _, x := range transactions() {
		for coord := range api.MaxNodes {
			var m record.Marks
			m[x.Coord] = x
			m[coord] = api.Txn{Coord: coord, Inc: 3, Seq: 4}
			b := m.Pack()
			if len(b) > api.MaxRecord {
				t.Fatalf("the note has %d bytes", len(b))
			}
			other, ok := seen[string(b)]
			for c := range api.MaxNodes {
				if ok && (other[c].Inc != m[c].Inc || other[c].Seq != m[c].Seq) {
					t.Fatalf("%+v and %+v are packed alike", m, other)
				}
			}
			seen[string(b)] = m
		}
	}
}

func TestPackIsNewMemory(t *testing.T) {
	r := record.Record{Kind: record.Commit, Txn: api.Txn{Coord: 1, Inc: 2, Seq: 3}, Nodes: 6}
	m := record.Marks{1: r.Txn}
	b, c := r.Pack(), m.Pack()
	d, e := bytes.Clone(b), bytes.Clone(c)
	clear(b[:cap(b)])
	clear(c[:cap(c)])
	if !bytes.Equal(r.Pack(), d) || !bytes.Equal(m.Pack(), e) {
		t.Errorf("what was packed ahead is written into")
	}
}

func TestUnpack(t *testing.T) {
	for _, r := range records() {
		if got := record.Unpack(r.Pack()); got != r {
			t.Fatalf("%+v is unpacked as %+v", r, got)
		}
	}
	for kind := record.Init; kind <= record.Commit; kind++ {
		for nodes := range 1 << api.MaxNodes {
			r := record.Record{Kind: kind, Txn: api.Txn{Coord: 3, Inc: 2, Seq: 1}, Nodes: set.Set(nodes)}
			if got := record.Unpack(r.Pack()); got != r {
				t.Fatalf("%+v is unpacked as %+v", r, got)
			}
		}
	}
}

func TestUnpackMarks(t *testing.T) {
	for _, x := range transactions() {
		for coord := range api.MaxNodes {
			var m record.Marks
			m[coord] = api.Txn{Coord: coord, Inc: 5, Seq: 6}
			m[x.Coord] = x
			got := record.UnpackMarks(m.Pack())
			for c := range api.MaxNodes {
				if record.Compare(got[c], api.Txn{Coord: c, Inc: m[c].Inc, Seq: m[c].Seq}) != 0 {
					t.Fatalf("%+v are unpacked as %+v", m, got)
				}
			}
		}
	}
}

// A journal that was never truncated has no note.
func TestUnpackNoMarks(t *testing.T) {
	for _, note := range [][]byte{nil, {}} {
		if m := record.UnpackMarks(note); m != (record.Marks{}) {
			t.Errorf("an empty note tells %+v", m)
		}
	}
	var none record.Marks
	m := record.UnpackMarks(none.Pack())
	for coord := range api.MaxNodes {
		if m.Has(api.Txn{Coord: coord, Inc: 1, Seq: 1}) {
			t.Errorf("a note without marks marks the first transaction of node %d", coord)
		}
	}
}

func TestAddMarks(t *testing.T) {
	var m record.Marks
	a, b, c := api.Txn{Coord: 1, Inc: 1, Seq: 9}, api.Txn{Coord: 1, Inc: 2, Seq: 1}, api.Txn{Coord: 1, Inc: 2, Seq: 2}
	other := api.Txn{Coord: 3, Inc: 1, Seq: 1}
	for _, step := range []struct{ add, want api.Txn }{{a, a}, {b, b}, {a, b}, {c, c}, {b, c}, {c, c}} {
		m.Add(step.add)
		if want := (record.Marks{1: step.want}); m != want {
			t.Fatalf("behind %v the marks are %+v, want %+v", step.add, m, want)
		}
	}
	m.Add(other)
	if want := (record.Marks{1: c, 3: other}); m != want {
		t.Fatalf("the marks are %+v, want %+v", m, want)
	}
}

func TestCompare(t *testing.T) {
	sign := func(c int) int { return min(max(c, -1), 1) }
	all := transactions()
	for i, a := range all { // they are in their order
		for j, b := range all {
			want := sign(i - j)
			if got := sign(record.Compare(a, b)); got != want {
				t.Fatalf("Compare(%v, %v) = %d, want %d", a, b, got, want)
			}
		}
	}
}

func TestMarks(t *testing.T) {
	var m record.Marks
	for coord := range api.MaxNodes {
		if m.Has(api.Txn{Coord: coord, Inc: 1, Seq: 1}) {
			t.Errorf("the first transaction of node %d is marked at first", coord)
		}
	}
	m[2] = api.Txn{Coord: 2, Inc: 3, Seq: 5}
	for _, c := range []struct {
		x    api.Txn
		want bool
	}{
		{api.Txn{Coord: 2, Inc: 3, Seq: 5}, true},
		{api.Txn{Coord: 2, Inc: 3, Seq: 4}, true},
		{api.Txn{Coord: 2, Inc: 3, Seq: 6}, false},
		{api.Txn{Coord: 2, Inc: 2, Seq: 9}, true},
		{api.Txn{Coord: 2, Inc: 4, Seq: 1}, false},
		{api.Txn{Coord: 1, Inc: 1, Seq: 1}, false},
		{api.Txn{Coord: 3, Inc: 1, Seq: 1}, false},
	} {
		if m.Has(c.x) != c.want {
			t.Errorf("Has(%v) = %v", c.x, m.Has(c.x))
		}
	}
}
