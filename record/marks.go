package record

import "pact/api"

// Marks are a node's marks: of each coordinator the greatest transaction that is marked. At first they are all zero, which is less than every transaction.
type Marks [api.MaxNodes]api.Txn

// Has tells whether a transaction is marked already.
func (m *Marks) Has(t api.Txn) bool { return Compare(t, m[t.Coord]) <= 0 }

// Add marks a transaction.
func (m *Marks) Add(t api.Txn) {
	if !m.Has(t) {
		m[t.Coord] = t
	}
}

// Pack tells all marks as bytes, MaxRecord at most.
func (m *Marks) Pack() []byte {
	var b []byte
	for _, t := range m {
		b = appendNumbers(b, t)
	}
	return b
}

// UnpackMarks tells the marks that were packed so. A note that was never written is empty, and tells none.
func UnpackMarks(b []byte) Marks {
	var m Marks
	if len(b) == 0 {
		return m
	}
	for coord := range m {
		m[coord] = takeNumbers(b[coord*numbersSize:], coord)
	}
	return m
}
