package pact_test

import (
	"slices"

	"pact/api"
)

// model says once more, as plainly as can be, what a cluster is: every node keeps lists, and all the records that it ever wrote and did not lose.
type model struct {
	c     api.Config
	nodes []*modelNode
	net   []api.Message
	trace []api.Event
}

type modelNode struct {
	m        *model
	id       int
	refuses  bool
	open     []*modelDeal // in the order of their transactions
	prepared []api.Txn
	marked   []api.Txn
	records  []modelRecord
	durable  int // so many of them
	noted    []api.Txn
	low      int
	inc      int
	begun    int
	cost     api.Cost
	down     bool
	fuse     *modelFuse
	failed   bool // its power, in the call that goes on: it does nothing more
}

type modelFuse struct {
	left int
	keep []bool
}

type modelDeal struct {
	x     api.Txn
	state int
	parts []int
	waits []int
	ticks int
}

type modelRecord struct {
	kind  string
	x     api.Txn
	nodes []int
}

func newModel(c api.Config) *model {
	m := &model{c: c}
	for id := range c.Nodes {
		m.nodes = append(m.nodes, &modelNode{m: m, id: id, low: 1, inc: 1})
	}
	return m
}

func (m *model) isNode(i int) bool { return i >= 0 && i < len(m.nodes) }

func (m *model) acksDue(outcome int) bool {
	switch m.c.Variant {
	case api.Abort:
		return outcome == api.Committed
	case api.Commit:
		return outcome == api.Aborted
	}
	return true
}

func (m *model) rightParts(parts []int) bool {
	for k, p := range parts {
		if !m.isNode(p) || slices.Contains(parts[:k], p) {
			return false
		}
	}
	return len(parts) > 0
}

func (m *model) begin(node int, parts []int) (api.Txn, api.Errno) {
	if !m.isNode(node) || !m.rightParts(parts) {
		return api.Txn{}, api.ErrArg
	}
	p := m.nodes[node]
	if p.down {
		return api.Txn{}, api.ErrDown
	}
	if len(p.open) == api.MaxOpen || p.room() < p.need()+3 {
		return api.Txn{}, api.ErrFull
	}
	p.begun++
	x := tx(node, p.inc, p.begun)
	sorted := slices.Sorted(slices.Values(parts))
	if m.c.Variant == api.Commit {
		p.force("Init", x, sorted)
	}
	p.open = append(p.open, &modelDeal{x: x, state: api.Preparing, parts: sorted, waits: sorted})
	p.sendEach(api.Prepare, sorted, x)
	if e := p.finish(); e != api.OK {
		return api.Txn{}, e
	}
	return x, api.OK
}

func (m *model) deliver(i int) api.Errno {
	if i < 0 || i >= len(m.net) {
		return api.ErrArg
	}
	s := m.net[i]
	m.drop(i)
	p := m.nodes[s.To]
	if p.down {
		return api.OK
	}
	p.act(s)
	return p.finish()
}

func (m *model) drop(i int) api.Errno {
	if i < 0 || i >= len(m.net) {
		return api.ErrArg
	}
	m.net = append(slices.Clone(m.net[:i]), m.net[i+1:]...)
	return api.OK
}

func (m *model) copy(i int) api.Errno {
	if i < 0 || i >= len(m.net) {
		return api.ErrArg
	}
	m.net = append(m.net, m.net[i])
	return api.OK
}

func (m *model) tick(node int) api.Errno {
	if !m.isNode(node) {
		return api.ErrArg
	}
	p := m.nodes[node]
	if p.down {
		return api.ErrDown
	}
	p.tick()
	return p.finish()
}

func (m *model) round() {
	for i := range m.nodes {
		m.tick(i)
	}
}

// finish ends a call.
func (p *modelNode) finish() api.Errno {
	if p.failed {
		p.crash(p.fuse.keep)
		return api.ErrPower
	}
	p.lookAfter()
	return api.OK
}

func (p *modelNode) send(kind, to int, x api.Txn) {
	if p.failed {
		return
	}
	p.m.net = append(p.m.net, msg(kind, p.id, to, x))
	p.m.trace = append(p.m.trace, sent(kind, p.id, to, x))
	p.cost.Sent++
}

func (p *modelNode) sendEach(kind int, to []int, x api.Txn) {
	for _, q := range to {
		p.send(kind, q, x)
	}
}

func (p *modelNode) happens(kind int, x api.Txn, outcome int) {
	if !p.failed {
		p.m.trace = append(p.m.trace, event(kind, p.id, x, outcome))
	}
}

// write tells whether the record was written.
func (p *modelNode) write(kind string, x api.Txn, nodes []int) bool {
	if p.fuse != nil && !p.failed {
		p.failed = p.fuse.left == 0
		p.fuse.left--
	}
	if p.failed {
		return false
	}
	p.records = append(p.records, modelRecord{kind, x, nodes})
	return true
}

func (p *modelNode) force(kind string, x api.Txn, nodes []int) {
	if p.write(kind, x, nodes) {
		p.durable = len(p.records)
		p.cost.Forced++
	}
}

func (p *modelNode) lazy(kind string, x api.Txn) {
	if p.write(kind, x, nil) {
		p.cost.Lazy++
	}
}

// A mark is the greatest, so that all that were marked and all below them are marked.
func (p *modelNode) isMarked(x api.Txn) bool {
	return slices.ContainsFunc(p.marked, func(y api.Txn) bool {
		return y.Coord == x.Coord && (x.Inc < y.Inc || x.Inc == y.Inc && x.Seq <= y.Seq)
	})
}

func (p *modelNode) mark(x api.Txn) {
	p.marked = append(p.marked, x)
	p.truncate(p.low)
	p.cost.Forced++
}

func (p *modelNode) truncate(low int) {
	p.low = low
	p.noted = slices.Clone(p.marked)
	p.durable = len(p.records)
}

func (p *modelNode) segment(number int) int { return (number - 1) / p.m.c.PerSegment }

func (p *modelNode) room() int {
	used := 0
	for i := range p.records {
		if p.segment(i+1) >= p.segment(p.low) {
			used++
		}
	}
	return p.m.c.Ring*p.m.c.PerSegment - used
}

func (p *modelNode) need() int { return 3*len(p.open) + 2*len(p.prepared) }

// firstRecord is 0 if there is none.
func (p *modelNode) firstRecord(x api.Txn, kinds ...string) int {
	return 1 + slices.IndexFunc(p.records, func(r modelRecord) bool { return r.x == x && slices.Contains(kinds, r.kind) })
}

func (p *modelNode) lookAfter() {
	needed := []int{len(p.records) + 1}
	for _, d := range p.open {
		if i := p.firstRecord(d.x, "Init", "Commit", "Abort"); i > 0 {
			needed = append(needed, i)
		}
	}
	for _, x := range p.prepared {
		needed = append(needed, p.firstRecord(x, "Yes"))
	}
	if n := slices.Min(needed); p.segment(n) > p.segment(p.low) {
		p.truncate(n)
	}
}

func (p *modelNode) find(x api.Txn) *modelDeal {
	for _, d := range p.open {
		if d.x == x {
			return d
		}
	}
	return nil
}

func (p *modelNode) close(x api.Txn) {
	p.open = slices.DeleteFunc(p.open, func(d *modelDeal) bool { return d.x == x })
}

func without(list []int, q int) []int {
	return slices.DeleteFunc(slices.Clone(list), func(i int) bool { return i == q })
}

func (p *modelNode) act(s api.Message) {
	x, q, d := s.Txn, s.From, p.find(s.Txn)
	waits := d != nil && slices.Contains(d.waits, q)
	switch s.Kind {
	case api.Prepare:
		p.prepare(x, q)
	case api.Yes:
		if waits && d.state == api.Preparing {
			if d.waits = without(d.waits, q); len(d.waits) == 0 {
				p.commit(d)
			}
		}
	case api.No:
		if waits && d.state == api.Preparing {
			p.abort(d, without(d.parts, q))
		}
	case api.DoCommit:
		p.learn(x, q, api.Committed, "Done, committed")
	case api.DoAbort:
		p.learn(x, q, api.Aborted, "Done, aborted")
	case api.Ack:
		if waits && d.state != api.Preparing {
			if d.waits = without(d.waits, q); len(d.waits) == 0 {
				p.lazy("End", x)
				p.close(x)
			}
		}
	case api.Inquiry:
		p.answer(d, x, q)
	}
}

func (p *modelNode) prepare(x api.Txn, q int) {
	if slices.Contains(p.prepared, x) {
		p.send(api.Yes, q, x)
	} else if p.isMarked(x) {
		return
	} else if p.refuses {
		p.mark(x)
		p.send(api.No, q, x)
	} else if len(p.prepared) == api.MaxOpen || p.room() < p.need()+2 {
		return
	} else {
		p.force("Yes", x, nil)
		p.marked = append(p.marked, x)
		p.prepared = append(p.prepared, x)
		p.send(api.Yes, q, x)
	}
}

func (p *modelNode) commit(d *modelDeal) {
	p.force("Commit", d.x, d.parts)
	p.happens(api.Told, d.x, api.Committed)
	p.sendEach(api.DoCommit, d.parts, d.x)
	if p.m.acksDue(api.Committed) {
		d.state, d.waits = api.Committing, d.parts
	} else {
		p.close(d.x)
	}
}

func (p *modelNode) abort(d *modelDeal, nodes []int) {
	if p.m.c.Variant == api.Nothing {
		p.force("Abort", d.x, nodes)
	}
	p.happens(api.Told, d.x, api.Aborted)
	p.sendEach(api.DoAbort, nodes, d.x)
	if !p.m.acksDue(api.Aborted) {
		p.close(d.x)
	} else if len(nodes) == 0 {
		p.lazy("End", d.x)
		p.close(d.x)
	} else {
		d.state, d.waits = api.Aborting, nodes
	}
}

func (p *modelNode) learn(x api.Txn, q, outcome int, done string) {
	due := p.m.acksDue(outcome)
	if slices.Contains(p.prepared, x) {
		if due {
			p.force(done, x, nil)
		} else {
			p.lazy(done, x)
		}
		p.happens(api.Applied, x, outcome)
		p.prepared = slices.DeleteFunc(p.prepared, func(y api.Txn) bool { return y == x })
	} else if due && !p.isMarked(x) {
		p.mark(x)
	}
	if due {
		p.send(api.Ack, q, x)
	}
}

func (p *modelNode) answer(d *modelDeal, x api.Txn, q int) {
	switch {
	case d != nil && d.state == api.Preparing:
	case d != nil && d.state == api.Committing:
		p.send(api.DoCommit, q, x)
	case d != nil:
		p.send(api.DoAbort, q, x)
	case p.m.c.Variant == api.Commit:
		p.send(api.DoCommit, q, x)
	default:
		p.send(api.DoAbort, q, x)
	}
}

func (p *modelNode) tick() {
	for _, d := range slices.Clone(p.open) {
		switch d.state {
		case api.Preparing:
			if d.ticks++; d.ticks == p.m.c.Patience {
				p.abort(d, d.parts)
			}
		case api.Committing:
			p.sendEach(api.DoCommit, d.waits, d.x)
		case api.Aborting:
			p.sendEach(api.DoAbort, d.waits, d.x)
		}
	}
	for _, e := range p.table() {
		if e.Role == api.Participant {
			p.send(api.Inquiry, e.Txn.Coord, e.Txn)
		}
	}
}

func (p *modelNode) table() []api.Entry {
	var l []api.Entry
	for _, d := range p.open {
		bits := 0
		for _, q := range d.waits {
			bits += 1 << q
		}
		l = append(l, coordinates(d.x, d.state, bits))
	}
	for _, x := range slices.SortedFunc(slices.Values(p.prepared), less) {
		l = append(l, prepared(x))
	}
	return l
}

func less(x, y api.Txn) int {
	return slices.Compare([]int{x.Coord, x.Inc, x.Seq}, []int{y.Coord, y.Inc, y.Seq})
}

func (m *model) view() view {
	v := view{net: m.net, trace: m.trace}
	for i, p := range m.nodes {
		if p.down {
			v.down = append(v.down, i)
		} else {
			v.tables = append(v.tables, p.table())
		}
		v.costs = append(v.costs, p.cost)
	}
	return v
}
