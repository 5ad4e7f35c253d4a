package node

import (
	"pact/api"
	"pact/record"
	"pact/set"
)

// deal is an open transaction, as its coordinator remembers it.
type deal struct {
	parts   set.Set
	waits   set.Set
	outcome int // 0 as long as there is none
	ticks   int // that it has waited for votes
	record  int // the number of the record that it needs, 0 if it has none
}

func stateOf(outcome int) int {
	switch outcome {
	case api.Committed:
		return api.Committing
	case api.Aborted:
		return api.Aborting
	}
	return api.Preparing
}

// order is the message that tells an outcome.
func order(outcome int) int {
	if outcome == api.Committed {
		return api.DoCommit
	}
	return api.DoAbort
}

func (n *Node) begin(t api.Txn, parts set.Set) {
	d := &deal{parts: parts, waits: parts}
	if n.config.Variant == api.Commit {
		d.record = n.force(record.Record{Kind: record.Init, Txn: t, Nodes: parts})
	}
	n.begun++
	n.open[t] = d
	n.sendAll(api.Prepare, parts, t)
}

// asked finds an open transaction that waits for this node's vote, nil if it doesn't.
func (n *Node) asked(t api.Txn, from int) *deal {
	d := n.open[t]
	if d == nil || d.outcome != 0 || !d.waits.Has(from) {
		return nil
	}
	return d
}

func (n *Node) hearYes(t api.Txn, from int) {
	d := n.asked(t, from)
	if d == nil {
		return
	}
	d.waits = d.waits.Without(from)
	if d.waits == 0 {
		n.commit(t, d)
	}
}

func (n *Node) hearNo(t api.Txn, from int) {
	if d := n.asked(t, from); d != nil {
		n.abort(t, d, d.parts.Without(from))
	}
}

// commit: an Init is not needed any more behind the Commit, with which presumed commit forgets the transaction.
func (n *Node) commit(t api.Txn, d *deal) {
	d.record = n.force(record.Record{Kind: record.Commit, Txn: t, Nodes: d.parts})
	n.settle(t, d, api.Committed, d.parts)
}

func (n *Node) abort(t api.Txn, d *deal, nodes set.Set) {
	if n.config.Variant == api.Nothing {
		d.record = n.force(record.Record{Kind: record.Abort, Txn: t, Nodes: nodes})
	}
	n.settle(t, d, api.Aborted, nodes)
}

// settle tells the outcome; a transaction stays open only for acks.
func (n *Node) settle(t api.Txn, d *deal, outcome int, nodes set.Set) {
	n.happen(api.Told, t, outcome)
	n.sendAll(order(outcome), nodes, t)
	d.outcome, d.waits = outcome, nodes
	if !n.acksDue(outcome) {
		delete(n.open, t)
	} else if nodes == 0 {
		n.end(t)
	}
}

func (n *Node) end(t api.Txn) {
	n.lazy(record.Record{Kind: record.End, Txn: t})
	delete(n.open, t)
}

func (n *Node) hearAck(t api.Txn, from int) {
	d := n.open[t]
	if d == nil || d.outcome == 0 || !d.waits.Has(from) {
		return
	}
	d.waits = d.waits.Without(from)
	if d.waits == 0 {
		n.end(t)
	}
}

func (n *Node) answer(t api.Txn, from int) {
	d := n.open[t]
	switch {
	case d == nil:
		n.send(order(n.presumed()), from, t)
	case d.outcome != 0:
		n.send(order(d.outcome), from, t)
	}
}

// wait is a tick of an open transaction.
func (n *Node) wait(t api.Txn, d *deal) {
	if d.outcome != 0 {
		n.sendAll(order(d.outcome), d.waits, t)
		return
	}
	d.ticks++
	if d.ticks == n.config.Patience {
		n.abort(t, d, d.parts)
	}
}
