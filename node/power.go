package node

import (
	"slices"

	"pact/api"
)

// fuse lets the power fail at an append that is still to come.
type fuse struct {
	left int // the appends that are still made ahead of it
	keep []bool
}

// powerFailure is what an append panics with that must not be made any more.
type powerFailure struct {
	keep []bool
}

// Fuse lets the node's power fail when it would append a record behind so many more.
func (n *Node) Fuse(after int, keep []bool) {
	n.fuse = &fuse{left: after, keep: slices.Clone(keep)}
}

// burnFuse comes ahead of every append.
func (n *Node) burnFuse() {
	if n.fuse == nil {
		return
	}
	if n.fuse.left == 0 {
		panic(powerFailure{keep: n.fuse.keep})
	}
	n.fuse.left--
}

// Crash takes the power away from a node that is up.
func (n *Node) Crash(keep []bool) []api.Event {
	n.crash(keep)
	return n.takeEvents()
}

func (n *Node) crash(keep []bool) {
	n.disk.Crash(keep)
	n.happen(api.Crashed, api.Txn{}, 0)
	n.forget()
}

// forget leaves what has nothing to do with power: how the node votes, what it has spent, and its incarnation, which its disk tells too.
func (n *Node) forget() {
	n.journal, n.fuse = nil, nil
	n.begun = 0
	clear(n.open)
	clear(n.prepared)
	clear(n.marks[:])
}
