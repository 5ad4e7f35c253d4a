package node

import (
	"pact/api"
	"pact/journal"
	"pact/record"
)

// Restart gives its power back to a node that is down, if there is an incarnation left.
func (n *Node) Restart() ([]api.Event, api.Errno) {
	if n.incarnation >= api.MaxNumber {
		return nil, api.ErrFull
	}
	return n.do(n.restart)
}

func (n *Node) restart() {
	j, _ := journal.Open(n.disk, n.config.Ring, n.config.PerSegment)
	n.use(j)
	n.happen(api.Restarted, api.Txn{}, 0)
	n.marks = record.UnpackMarks(j.Note())
	for number := j.Low(); number < j.Next(); number++ {
		b, _ := j.Read(number)
		n.recall(number, record.Unpack(b))
	}
}

// recall goes from record to record, so that a later one takes back what those ahead of it told.
func (n *Node) recall(number int, r record.Record) {
	switch r.Kind {
	case record.Init:
		n.reopen(number, r, api.Aborted)
	case record.Commit:
		n.recallCommit(number, r)
	case record.Abort:
		if r.Nodes != 0 {
			n.reopen(number, r, api.Aborted)
		}
	case record.End:
		delete(n.open, r.Txn)
	case record.Yes:
		n.prepared[r.Txn] = number
		n.marks.Add(r.Txn)
	case record.Done:
		delete(n.prepared, r.Txn)
		n.marks.Add(r.Txn) // its Yes may be gone from the journal
	}
}

// recallCommit: where nobody owes an ack, a commit is forgotten, for it will be presumed.
func (n *Node) recallCommit(number int, r record.Record) {
	if n.acksDue(api.Committed) {
		n.reopen(number, r, api.Committed)
	} else {
		delete(n.open, r.Txn)
	}
}

// reopen waits for all nodes of the record once more: who has acked was not written down.
func (n *Node) reopen(number int, r record.Record, outcome int) {
	n.open[r.Txn] = &deal{parts: r.Nodes, waits: r.Nodes, outcome: outcome, record: number}
}
