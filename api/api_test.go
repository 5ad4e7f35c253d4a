package api_test

import (
	"testing"

	"pact/api"
)

// Callers may store the numbers, so the names alone are not enough.
func TestErrorNumbers(t *testing.T) {
	want := []api.Errno{
		api.OK, api.ErrArg, api.ErrFull, api.ErrBroken, api.ErrDown, api.ErrUp, api.ErrPower,
	}
	for n, e := range want {
		if int(e) != n {
			t.Errorf("error number %d is %d", n, e)
		}
	}
}

func TestDiskBounds(t *testing.T) {
	if api.Sector != 64 || api.MaxSectors != 128 {
		t.Errorf("Sector = %d, MaxSectors = %d", api.Sector, api.MaxSectors)
	}
}
