// Package node is a node of a cluster: what it remembers, what it does, and what it writes into its journal. A node touches nothing but itself, so that several can work at once: what it sends and what happens to it, it tells as events.
package node

import (
	"maps"
	"slices"

	"pact/api"
	"pact/disk"
	"pact/journal"
	"pact/record"
	"pact/set"
)

// Node is a node. It is up as long as it has a journal in use.
type Node struct {
	id          int
	config      api.Config
	disk        *disk.Disk
	incarnation int // the last one, if the node is down
	refuses     bool
	cost        api.Cost

	journal  *journal.Journal
	fuse     *fuse // nil if there is none
	begun    int   // transactions, in this incarnation
	open     map[api.Txn]*deal
	prepared map[api.Txn]int // the numbers of their Yes records
	marks    record.Marks

	events []api.Event // what has happened so far in the call that goes on
}

// New makes the node with this number, of a configuration that is right, with a new journal on a disk of its own.
func New(id int, c api.Config) *Node {
	d, _ := disk.New(c.Ring*c.PerSegment + 2)
	j, _ := journal.Create(d, c.Ring, c.PerSegment)
	n := &Node{
		id:       id,
		config:   c,
		disk:     d,
		open:     map[api.Txn]*deal{},
		prepared: map[api.Txn]int{},
	}
	n.use(j)
	return n
}

// use begins an incarnation.
func (n *Node) use(j *journal.Journal) {
	n.journal = j
	n.incarnation = j.Epoch()
}

// Up tells whether the node has power.
func (n *Node) Up() bool { return n.journal != nil }

// Refuse lets the node vote no from now on, or not any more.
func (n *Node) Refuse(on bool) { n.refuses = on }

// Costs tells what the node has spent since it was made.
func (n *Node) Costs() api.Cost { return n.cost }

// Begin begins a transaction with these parts; the node is up and not Full. As of Act and Tick, the error is ErrPower or none.
func (n *Node) Begin(parts set.Set) (api.Txn, []api.Event, api.Errno) {
	t := api.Txn{Coord: n.id, Inc: n.incarnation, Seq: n.begun + 1}
	events, e := n.do(func() { n.begin(t, parts) })
	if e != api.OK {
		return api.Txn{}, events, e
	}
	return t, events, api.OK
}

// Act acts on a message that goes to the node.
func (n *Node) Act(m api.Message) ([]api.Event, api.Errno) {
	return n.do(func() { n.act(m) })
}

// Tick lets the node's time go by.
func (n *Node) Tick() ([]api.Event, api.Errno) { return n.do(n.tick) }

// do tells what has happened in a call up to its end, or up to where the power failed.
func (n *Node) do(work func()) ([]api.Event, api.Errno) {
	e := n.powered(work)
	return n.takeEvents(), e
}

// powered is the node's edge: a failure of its power goes no further.
func (n *Node) powered(work func()) (e api.Errno) {
	defer func() {
		switch failure := recover().(type) {
		case nil:
		case powerFailure:
			n.crash(failure.keep)
			e = api.ErrPower
		default:
			panic(failure)
		}
	}()
	work()
	n.lookAfterJournal()
	return api.OK
}

func (n *Node) takeEvents() []api.Event {
	events := n.events
	n.events = nil
	return events
}

func (n *Node) act(m api.Message) {
	switch m.Kind {
	case api.Prepare:
		n.vote(m.Txn, m.From)
	case api.Yes:
		n.hearYes(m.Txn, m.From)
	case api.No:
		n.hearNo(m.Txn, m.From)
	case api.DoCommit:
		n.learn(m.Txn, m.From, api.Committed)
	case api.DoAbort:
		n.learn(m.Txn, m.From, api.Aborted)
	case api.Ack:
		n.hearAck(m.Txn, m.From)
	case api.Inquiry:
		n.answer(m.Txn, m.From)
	}
}

func (n *Node) tick() {
	for _, t := range sorted(n.open) {
		n.wait(t, n.open[t])
	}
	for _, t := range sorted(n.prepared) {
		n.send(api.Inquiry, t.Coord, t)
	}
}

// Table tells what the node remembers of transactions.
func (n *Node) Table() []api.Entry {
	var list []api.Entry
	for _, t := range sorted(n.open) {
		d := n.open[t]
		list = append(list, api.Entry{Txn: t, Role: api.Coordinator, State: stateOf(d.outcome), Waits: int(d.waits)})
	}
	for _, t := range sorted(n.prepared) {
		list = append(list, api.Entry{Txn: t, Role: api.Participant, State: api.Prepared})
	}
	return list
}

func sorted[V any](table map[api.Txn]V) []api.Txn {
	return slices.SortedFunc(maps.Keys(table), record.Compare)
}

func (n *Node) send(kind int, to int, t api.Txn) {
	m := api.Message{Kind: kind, From: n.id, To: to, Txn: t}
	n.events = append(n.events, api.Event{Kind: api.Sent, Node: n.id, Txn: t, Message: m})
	n.cost.Sent++
}

func (n *Node) sendAll(kind int, to set.Set, t api.Txn) {
	for _, i := range to.Members() {
		n.send(kind, i, t)
	}
}

// happen is for all events but Sent.
func (n *Node) happen(kind int, t api.Txn, outcome int) {
	n.events = append(n.events, api.Event{Kind: kind, Node: n.id, Txn: t, Outcome: outcome})
}

// presumed is the outcome that is told of a transaction that nobody remembers.
func (n *Node) presumed() int {
	if n.config.Variant == api.Commit {
		return api.Committed
	}
	return api.Aborted
}

// acksDue: what everybody presumes may be forgotten without an ack; but presumed nothing relies on no presumption.
func (n *Node) acksDue(outcome int) bool {
	return n.config.Variant == api.Nothing || outcome != n.presumed()
}
