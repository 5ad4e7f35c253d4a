// Package record lays out what a node writes into its journal: its records, and its marks as a note.
package record

import (
	"cmp"

	"pact/api"
	"pact/set"
)

// The kinds of records: the first four a coordinator writes, the last two a participant.
const (
	Init   = 1
	Commit = 2
	Abort  = 3
	End    = 4
	Yes    = 5
	Done   = 6
)

// Record is a record of a transaction. Nodes are the parts of an Init or a Commit, and the nodes of an Abort; Outcome is that of a Done.
type Record struct {
	Kind    int
	Txn     api.Txn
	Nodes   set.Set
	Outcome int
}

// A number of numberSize bytes is enough for all numbers up to MaxNumber; a transaction has two besides its coordinator.
const (
	numberSize  = 4
	numbersSize = 2 * numberSize
)

// numbersAt is where a record has the numbers of its transaction.
const numbersAt = 4

// Pack tells a record as bytes, MaxRecord at most.
func (r Record) Pack() []byte {
	b := []byte{byte(r.Kind), byte(r.Nodes), byte(r.Outcome), byte(r.Txn.Coord)}
	return appendNumbers(b, r.Txn)
}

// Unpack tells the record that was packed so.
func Unpack(b []byte) Record {
	return Record{
		Kind:    int(b[0]),
		Nodes:   set.Set(b[1]),
		Outcome: int(b[2]),
		Txn:     takeNumbers(b[numbersAt:], int(b[3])),
	}
}

// appendNumbers leaves the coordinator out: a note tells it by the place.
func appendNumbers(b []byte, t api.Txn) []byte {
	for i := range numberSize {
		b = append(b, byte(t.Inc>>(8*i)))
	}
	for i := range numberSize {
		b = append(b, byte(t.Seq>>(8*i)))
	}
	return b
}

func takeNumbers(b []byte, coord int) api.Txn {
	t := api.Txn{Coord: coord}
	for i := range numberSize {
		t.Inc |= int(b[i]) << (8 * i)
		t.Seq |= int(b[numberSize+i]) << (8 * i)
	}
	return t
}

// Compare orders transactions by coordinator, incarnation and number.
func Compare(a api.Txn, b api.Txn) int {
	return cmp.Or(cmp.Compare(a.Coord, b.Coord), cmp.Compare(a.Inc, b.Inc), cmp.Compare(a.Seq, b.Seq))
}
