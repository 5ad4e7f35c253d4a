package api_test

import (
	"testing"

	"pact/api"
)

// Callers may store the numbers, so the names alone are not enough.
func TestErrorNumbers(t *testing.T) {
	want := []api.Errno{
		api.OK, api.ErrArg, api.ErrFull, api.ErrBroken, api.ErrDown, api.ErrUp, api.ErrPower,
	}
	for n, e := range want {
		if int(e) != n {
			t.Errorf("error number %d is %d", n, e)
		}
	}
}

func TestDiskBounds(t *testing.T) {
	if api.Sector != 64 || api.MaxSectors != 128 {
		t.Errorf("Sector = %d, MaxSectors = %d", api.Sector, api.MaxSectors)
	}
}

func TestJournalBounds(t *testing.T) {
	if api.MaxRecord != 40 {
		t.Errorf("MaxRecord = %d", api.MaxRecord)
	}
	if api.MinRing != 2 || api.MaxRing != 6 {
		t.Errorf("MinRing, MaxRing = %d, %d", api.MinRing, api.MaxRing)
	}
	if api.MinSegment != 2 || api.MaxSegment != 16 {
		t.Errorf("MinSegment, MaxSegment = %d, %d", api.MinSegment, api.MaxSegment)
	}
}
