package node

import (
	"pact/api"
	"pact/record"
)

func (n *Node) vote(t api.Txn, from int) {
	_, prepared := n.prepared[t]
	switch {
	case prepared:
		n.send(api.Yes, from, t)
	case n.marks.Has(t): // it was voted on, or its outcome has come: this Prepare is late
	case n.refuses:
		n.mark(t)
		n.send(api.No, from, t)
	case len(n.prepared) >= api.MaxOpen || n.room() < n.need()+preparedNeed:
	default:
		n.prepare(t)
		n.send(api.Yes, from, t)
	}
}

func (n *Node) prepare(t api.Txn) {
	n.prepared[t] = n.force(record.Record{Kind: record.Yes, Txn: t})
	n.marks.Add(t)
}

// learn: where acks are due, one is sent for what isn't prepared too, or the coordinator would wait for ever.
func (n *Node) learn(t api.Txn, from int, outcome int) {
	due := n.acksDue(outcome)
	if _, prepared := n.prepared[t]; prepared {
		n.apply(t, outcome, due)
	} else if due && !n.marks.Has(t) {
		n.mark(t)
	}
	if due {
		n.send(api.Ack, from, t)
	}
}

func (n *Node) apply(t api.Txn, outcome int, due bool) {
	done := record.Record{Kind: record.Done, Txn: t, Outcome: outcome}
	if due {
		n.force(done)
	} else {
		n.lazy(done)
	}
	n.happen(api.Applied, t, outcome)
	delete(n.prepared, t)
}
