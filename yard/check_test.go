package yard_test

import (
	"math"
	"testing"

	"yard/api"
	"yard/yard"
)

// field is a number of a configuration, with its bounds written out.
type field struct {
	name            string
	least, greatest int
	set             func(c *api.Config, n int)
}

func fields() []field {
	return []field{
		{"Ticks", 1, 64, func(c *api.Config, n int) { c.Ticks = n }},
		{"Capacity", 0, 100000, func(c *api.Config, n int) { c.Capacity = n }},
		{"Reserve", 0, 1000, func(c *api.Config, n int) { c.Reserve = n }},
		{"Tenants", 1, 8, func(c *api.Config, n int) { c.Tenants = n }},
		{"Quota", 1, 16, func(c *api.Config, n int) { c.Quota = n }},
	}
}

func ordinary() api.Config {
	return api.Config{Ticks: 6, Capacity: 4, Reserve: 1, Tenants: 3, Quota: 2}
}

func wantCheck(t *testing.T, c api.Config, want api.Errno) {
	t.Helper()
	if e := yard.Check(c); e != want {
		t.Errorf("P3: Check(%+v) = %d, want %d", c, e, want)
	}
}

func TestCheckTakes(t *testing.T) {
	wantCheck(t, ordinary(), api.OK)
	least, greatest := api.Config{}, api.Config{}
	for _, f := range fields() {
		for _, n := range []int{f.least, f.least + 1, f.greatest - 1, f.greatest} {
			c := ordinary()
			f.set(&c, n)
			wantCheck(t, c, api.OK)
		}
		f.set(&least, f.least)
		f.set(&greatest, f.greatest)
	}
	wantCheck(t, least, api.OK)
	wantCheck(t, greatest, api.OK)
}

func TestCheckRefusesOneWrongNumber(t *testing.T) {
	for _, f := range fields() {
		for _, n := range []int{math.MinInt, -1 << 32, -1 << 31, -1, f.least - 1, f.greatest + 1, 1 << 31, 1 << 32, 1<<32 + 1, math.MaxInt} {
			c := ordinary()
			f.set(&c, n)
			wantCheck(t, c, api.ErrConfig)
		}
	}
}

func TestCheckRefusesSeveralWrongNumbers(t *testing.T) {
	wantCheck(t, api.Config{}, api.ErrConfig)
	for _, a := range fields() {
		for _, b := range fields() {
			c := ordinary()
			a.set(&c, a.greatest+1)
			b.set(&c, b.least-1)
			wantCheck(t, c, api.ErrConfig)
		}
	}
}
