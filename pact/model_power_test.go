package pact_test

import (
	"slices"
	"strings"

	"pact/api"
)

func (m *model) crash(node int, keep []bool) api.Errno {
	if !m.isNode(node) {
		return api.ErrArg
	}
	if m.nodes[node].down {
		return api.ErrDown
	}
	m.nodes[node].crash(keep)
	return api.OK
}

func (m *model) setFuse(node, after int, keep []bool) api.Errno {
	if !m.isNode(node) || after < 0 {
		return api.ErrArg
	}
	if m.nodes[node].down {
		return api.ErrDown
	}
	m.nodes[node].fuse = &modelFuse{left: after, keep: slices.Clone(keep)}
	return api.OK
}

func (m *model) restart(node int) api.Errno {
	if !m.isNode(node) {
		return api.ErrArg
	}
	if !m.nodes[node].down {
		return api.ErrUp
	}
	m.nodes[node].restart()
	return api.OK
}

// crash: the records that are not durable are there up to the first that is not kept.
func (p *modelNode) crash(keep []bool) {
	left := p.durable
	for left < len(p.records) && left-p.durable < len(keep) && keep[left-p.durable] {
		left++
	}
	p.records = p.records[:left:left]
	p.durable = left
	p.m.trace = append(p.m.trace, event(api.Crashed, p.id, api.Txn{}, 0))
	p.open, p.prepared, p.marked = nil, nil, nil
	p.fuse, p.failed, p.down = nil, false, true
	p.begun = 0
}

func (p *modelNode) restart() {
	p.m.trace = append(p.m.trace, event(api.Restarted, p.id, api.Txn{}, 0))
	p.down = false
	p.inc++
	p.marked = slices.Clone(p.noted)
	for i := p.low - 1; i < len(p.records); i++ {
		p.recall(p.records[i], p.records[i+1:])
	}
	slices.SortFunc(p.open, func(a, b *modelDeal) int { return less(a.x, b.x) })
	p.lookAfter()
}

// recall: what a record tells hangs on those behind it.
func (p *modelNode) recall(r modelRecord, behind []modelRecord) {
	without := func(kinds ...string) bool {
		return !slices.ContainsFunc(behind, func(s modelRecord) bool { return s.x == r.x && slices.Contains(kinds, s.kind) })
	}
	reopen := func(state int) {
		p.open = append(p.open, &modelDeal{x: r.x, state: state, parts: r.nodes, waits: r.nodes})
	}
	switch {
	case r.kind == "Init" && without("Commit", "End"):
		reopen(api.Aborting)
	case r.kind == "Commit" && p.m.c.Variant != api.Commit && without("End"):
		reopen(api.Committing)
	case r.kind == "Abort" && len(r.nodes) > 0 && without("End"):
		reopen(api.Aborting)
	case r.kind == "Yes" && without("Done, committed", "Done, aborted"):
		p.prepared = append(p.prepared, r.x)
	}
	if r.kind == "Yes" || strings.HasPrefix(r.kind, "Done") {
		p.marked = append(p.marked, r.x)
	}
}
