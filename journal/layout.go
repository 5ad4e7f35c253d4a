package journal

import (
	"pact/api"
	"pact/disk"
)

// A journal has one sector that tells its ring and per, one that tells its Low, Epoch and Note, and then one for each record of the ring. All of them are packed alike.
const (
	shapeAt   = 0
	stateAt   = 1
	recordsAt = 2
)

// name keeps what others wrote to a disk from passing for a journal.
const name = "pact journal"

// The places of what is packed in a sector: two numbers, the length of a text, the text.
const (
	numberSize = 8
	lengthAt   = 2 * numberSize
	textAt     = lengthAt + 1
)

// fits tells whether a disk can have a journal of this ring and per.
func fits(d *disk.Disk, ring int, per int) bool {
	if ring < api.MinRing || ring > api.MaxRing || per < api.MinSegment || per > api.MaxSegment {
		return false
	}
	_, e := d.Read(recordsAt + ring*per - 1)
	return e == api.OK
}

func shape(ring int, per int) []byte { return pack(ring, per, []byte(name)) }

func pack(a int, b int, text []byte) []byte {
	s := make([]byte, api.Sector)
	putNumber(s, a)
	putNumber(s[numberSize:], b)
	s[lengthAt] = byte(len(text))
	copy(s[textAt:], text)
	return s
}

// unpack cuts a length that pack never wrote, so that no sector is too strange to be read.
func unpack(s []byte) (a int, b int, text []byte) {
	end := textAt + min(int(s[lengthAt]), api.MaxRecord)
	return number(s), number(s[numberSize:]), s[textAt:end]
}

func putNumber(s []byte, n int) {
	for i := range numberSize {
		s[i] = byte(n >> (8 * i))
	}
}

func number(s []byte) int {
	n := 0
	for i := range numberSize {
		n |= int(s[i]) << (8 * i)
	}
	return n
}
