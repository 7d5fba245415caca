package api_test

import (
	"testing"

	"yard/api"
)

func TestErrorNumbers(t *testing.T) {
	errors := []api.Errno{api.OK, api.ErrConfig, api.ErrFull, api.ErrTenant, api.ErrSuspended, api.ErrRef, api.ErrJob, api.ErrQuota, api.ErrState, api.ErrArg, api.ErrUsed, api.ErrOver, api.ErrRange}
	for i, e := range errors {
		if int(e) != i {
			t.Errorf("the error named in place %d has the number %d", i, e)
		}
	}
}

func TestBounds(t *testing.T) {
	bounds := []struct {
		name      string
		got, want int
	}{
		{"MaxTicks", api.MaxTicks, 64},
		{"MaxUnits", api.MaxUnits, 1000},
		{"MaxCapacity", api.MaxCapacity, 100000},
		{"MaxReserve", api.MaxReserve, 1000},
		{"MaxTenants", api.MaxTenants, 8},
		{"MaxQuota", api.MaxQuota, 16},
		{"MaxRef", api.MaxRef, 1 << 30},
		{"MaxValue", api.MaxValue, 1 << 20},
		{"MaxPay", api.MaxPay, 1 << 30},
		{"MaxLog", api.MaxLog, 300},
		{"MaxCells", api.MaxCells, 4096},
		{"MaxCell", api.MaxCell, 1 << 40},
	}
	for _, b := range bounds {
		if b.got != b.want {
			t.Errorf("%s = %d, want %d", b.name, b.got, b.want)
		}
	}
}
