// Package record lays out what a node writes into its journal: its records, and its marks as a note.
package record

import (
	"cmp"

	"pact/api"
	"pact/set"
)

// The kinds of records: the first four a coordinator writes, the last two a participant.
const (
	Init   = 1
	Commit = 2
	Abort  = 3
	End    = 4
	Yes    = 5
	Done   = 6
)

// Record is a record of a transaction. Nodes are the parts of an Init or a Commit, and the nodes of an Abort; Outcome is that of a Done.
type Record struct {
	Kind    int
	Txn     api.Txn
	Nodes   set.Set
	Outcome int
}

// numberSize is enough for all numbers up to MaxNumber.
const numberSize = 4

// Pack tells a record as bytes, MaxRecord at most.
func (r Record) Pack() []byte {
	b := []byte{byte(r.Kind), byte(r.Nodes), byte(r.Outcome), byte(r.Txn.Coord)}
	return appendNumbers(b, r.Txn)
}

// appendNumbers leaves the coordinator out: a note tells it by the place.
func appendNumbers(b []byte, t api.Txn) []byte {
	for i := range numberSize {
		b = append(b, byte(t.Inc>>(8*i)))
	}
	for i := range numberSize {
		b = append(b, byte(t.Seq>>(8*i)))
	}
	return b
}

// Compare orders transactions by coordinator, incarnation and number.
func Compare(a api.Txn, b api.Txn) int {
	return cmp.Or(cmp.Compare(a.Coord, b.Coord), cmp.Compare(a.Inc, b.Inc), cmp.Compare(a.Seq, b.Seq))
}
