package yard_test

import (
	"math/rand"
	"testing"

	"yard/api"
	"yard/yard"
)

// model is a market as the document's words have it, without a thought of speed.
type model struct {
	c         api.Config
	entries   int
	states    map[api.Name]int
	suspended map[int]bool
	units     map[int]int
}

func newModel(c api.Config) *model {
	m := &model{c: c, states: map[api.Name]int{}, suspended: map[int]bool{}, units: map[int]int{}}
	for t := range c.Ticks {
		m.units[t] = c.Capacity
	}
	return m
}

func (m *model) noTenant(tenant int) bool { return tenant < 0 || tenant >= m.c.Tenants }

func (m *model) submit(tenant, ref int, j api.Job) api.Errno {
	pending := 0
	for name, state := range m.states {
		if name.Tenant == tenant && state == api.Pending {
			pending++
		}
	}
	switch {
	case m.entries == 300:
		return api.ErrFull
	case m.noTenant(tenant):
		return api.ErrTenant
	case m.suspended[tenant]:
		return api.ErrSuspended
	case ref < 1 || ref > 1<<30 || m.states[api.Name{Tenant: tenant, Ref: ref}] != 0:
		return api.ErrRef
	case j.Arrive < 0 || j.Len < 1 || j.Len > m.c.Ticks || j.Units < 1 || j.Units > 1000 || j.Value < 1 || j.Value > 1<<20 || j.Deadline > m.c.Ticks || j.Arrive+j.Len > j.Deadline:
		return api.ErrJob
	case pending == m.c.Quota:
		return api.ErrQuota
	}
	m.states[api.Name{Tenant: tenant, Ref: ref}] = api.Pending
	return api.OK
}

func (m *model) cancel(tenant, ref int) api.Errno {
	name := api.Name{Tenant: tenant, Ref: ref}
	switch {
	case m.entries == 300:
		return api.ErrFull
	case m.noTenant(tenant):
		return api.ErrTenant
	case m.states[name] == 0:
		return api.ErrRef
	case m.states[name] != api.Pending:
		return api.ErrState
	}
	m.states[name] = api.Cancelled
	return api.OK
}

func (m *model) suspend(tenant int, on bool) api.Errno {
	switch {
	case m.entries == 300:
		return api.ErrFull
	case m.noTenant(tenant):
		return api.ErrTenant
	}
	m.suspended[tenant] = on
	return api.OK
}

func (m *model) capacity(from, to, units int) api.Errno {
	switch {
	case m.entries == 300:
		return api.ErrFull
	case from < 0 || from >= to || to > m.c.Ticks || units < 0 || units > 100000:
		return api.ErrArg
	}
	for t := from; t < to; t++ {
		m.units[t] = units
	}
	return api.OK
}

// agrees tells everything that can be asked of a market, and whether the model says the same.
func (m *model) agrees(t *testing.T, y *yard.Yard) {
	t.Helper()
	wantLeft(t, y, 300-m.entries)
	if n := y.Now(); n != 0 {
		t.Errorf("P11: Now() = %d, while no tick goes by", n)
	}
	for i := range m.c.Ticks {
		if n, e := y.Free(i); n != m.units[i] || e != api.OK {
			t.Errorf("P11: Free(%d) = %d, %d, want %d", i, n, e, m.units[i])
		}
	}
	for tenant := -1; tenant <= m.c.Tenants; tenant++ {
		for ref := range 8 {
			want, wantErr := api.Bid{}, api.ErrTenant
			state := m.states[api.Name{Tenant: tenant, Ref: ref}]
			switch {
			case m.noTenant(tenant):
			case state == 0:
				wantErr = api.ErrRef
			default:
				want, wantErr = api.Bid{State: state, Start: -1}, api.OK
			}
			wantLook(t, y, tenant, ref, want, wantErr)
		}
	}
}

// randomJob is mostly right; each of its numbers may be just beyond its bounds.
func randomJob(r *rand.Rand, c api.Config) api.Job {
	n := r.Intn(c.Ticks + 2)
	arrive := r.Intn(c.Ticks+2) - 1
	job := api.Job{Arrive: arrive, Deadline: arrive + n + r.Intn(4) - 1, Len: n, Units: 1 + r.Intn(1000), Value: 1 + r.Intn(1<<20)}
	switch r.Intn(20) {
	case 0:
		job.Units = 0
	case 1:
		job.Units = 1001
	case 2:
		job.Value = 0
	case 3:
		job.Value = 1<<20 + 1
	}
	return job
}

func TestRandomCallsAgainstTheModel(t *testing.T) {
	r := rand.New(rand.NewSource(1))
	for range 200 {
		c := api.Config{Ticks: 1 + r.Intn(6), Capacity: r.Intn(6), Reserve: r.Intn(3), Tenants: 1 + r.Intn(4), Quota: 1 + r.Intn(3)}
		y, m := open(t, c), newModel(c)
		for range 310 {
			tenant, ref := r.Intn(c.Tenants+2)-1, r.Intn(8)
			switch r.Intn(7) {
			case 0, 1, 2:
				job := randomJob(r, c)
				wantSubmit(t, y, tenant, ref, job, m.submit(tenant, ref, job))
			case 3, 4:
				wantCancel(t, y, tenant, ref, m.cancel(tenant, ref))
			case 5:
				on := r.Intn(3) == 0
				wantSuspend(t, y, tenant, on, m.suspend(tenant, on))
			case 6:
				from, to, units := r.Intn(c.Ticks+2)-1, r.Intn(c.Ticks+3)-1, r.Intn(12)-1
				wantCapacity(t, y, from, to, units, m.capacity(from, to, units))
			}
			m.entries = min(m.entries+1, 300)
			m.agrees(t, y)
			if t.Failed() {
				t.Fatalf("configuration %+v, entry %d", c, m.entries)
			}
		}
	}
}
