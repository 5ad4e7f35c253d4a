package node

import (
	"pact/api"
	"pact/record"
)

// The records for which there must be room: of an open transaction, and of one that is prepared.
const (
	openNeed     = 3
	preparedNeed = 2
)

// write fails with the power alone: no transaction is taken on for which there is no room.
func (n *Node) write(r record.Record) int {
	n.burnFuse()
	number, _ := n.journal.Append(r.Pack())
	return number
}

func (n *Node) force(r record.Record) int {
	number := n.write(r)
	n.journal.Force(number)
	n.cost.Forced++
	return number
}

func (n *Node) lazy(r record.Record) {
	n.write(r)
	n.cost.Lazy++
}

// mark is for a transaction of which no Yes is written.
func (n *Node) mark(t api.Txn) {
	n.marks.Add(t)
	n.truncate(n.journal.Low())
	n.cost.Forced++
}

func (n *Node) truncate(low int) { n.journal.Truncate(low, n.marks.Pack()) }

func (n *Node) segment(number int) int { return (number - 1) / n.config.PerSegment }

// room counts from the first record of Low's segment: a segment is free only as a whole.
func (n *Node) room() int {
	first := n.segment(n.journal.Low())*n.config.PerSegment + 1
	return n.config.Ring*n.config.PerSegment - (n.journal.Next() - first)
}

func (n *Node) need() int { return openNeed*len(n.open) + preparedNeed*len(n.prepared) }

// Full tells whether the node can't begin a transaction.
func (n *Node) Full() bool {
	return len(n.open) >= api.MaxOpen || n.room() < n.need()+openNeed || n.begun >= api.MaxNumber
}

// lookAfterJournal lets go of the segments that no transaction needs any more.
func (n *Node) lookAfterJournal() {
	low := n.journal.Next()
	for _, d := range n.open {
		if d.record != 0 {
			low = min(low, d.record)
		}
	}
	for _, number := range n.prepared {
		low = min(low, number)
	}
	if n.segment(low) > n.segment(n.journal.Low()) {
		n.truncate(low)
	}
}
