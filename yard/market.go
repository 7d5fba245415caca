package yard

import (
	"yard/api"
	"yard/calendar"
)

// market is what has become of a configuration. It keeps no log: Yard does.
type market struct {
	config    api.Config
	time      int
	bids      []bid              // the older ones first
	suspended []bool             // by tenant
	units     []int              // those that there are, by tick
	free      *calendar.Calendar // those of them that are not in use, by tick
}

// bid is a job under a tenant's reference, and what has become of it.
type bid struct {
	name api.Name
	job  api.Job
	fate api.Bid
}

// newMarket makes a market of a configuration that Check takes.
func newMarket(c api.Config) *market {
	// No error can come: Check's bounds are within those of a row.
	free, _ := calendar.New(c.Ticks, c.Capacity)
	units := make([]int, c.Ticks)
	for t := range units {
		units[t] = c.Capacity
	}
	suspended := make([]bool, c.Tenants)
	return &market{config: c, suspended: suspended, units: units, free: free}
}

func (m *market) submit(name api.Name, job api.Job) api.Errno {
	if !m.hasTenant(name.Tenant) {
		return api.ErrTenant
	}
	if m.suspended[name.Tenant] {
		return api.ErrSuspended
	}
	if !within(name.Ref, 1, api.MaxRef) || m.indexOf(name) >= 0 {
		return api.ErrRef
	}
	if !m.canRun(job) {
		return api.ErrJob
	}
	if m.countPending(name.Tenant) >= m.config.Quota {
		return api.ErrQuota
	}
	m.bids = append(m.bids, bid{name: name, job: job, fate: api.Bid{State: api.Pending, Start: -1}})
	return api.OK
}

func (m *market) cancel(name api.Name) api.Errno {
	i, e := m.find(name)
	if e != api.OK {
		return e
	}
	if m.bids[i].fate.State != api.Pending {
		return api.ErrState
	}
	m.bids[i].fate.State = api.Cancelled
	return api.OK
}

func (m *market) suspend(tenant int, on bool) api.Errno {
	if !m.hasTenant(tenant) {
		return api.ErrTenant
	}
	m.suspended[tenant] = on
	return api.OK
}

func (m *market) setCapacity(from int, to int, units int) api.Errno {
	if from < m.time || from >= to || to > m.config.Ticks || !within(units, 0, api.MaxCapacity) {
		return api.ErrArg
	}
	// All ticks are tested before the first is changed, so that an error changes nothing.
	for t := from; t < to; t++ {
		if m.usedAt(t) > units {
			return api.ErrUsed
		}
	}
	for t := from; t < to; t++ {
		m.free.Add(t, t+1, units-m.units[t])
		m.units[t] = units
	}
	return api.OK
}

func (m *market) look(name api.Name) (api.Bid, api.Errno) {
	i, e := m.find(name)
	if e != api.OK {
		return api.Bid{}, e
	}
	return m.bids[i].fate, api.OK
}

func (m *market) freeAt(t int) (int, api.Errno) {
	if !within(t, 0, m.config.Ticks-1) {
		return 0, api.ErrArg
	}
	return m.free.Min(t, t+1)
}

// usedAt tells how many units are in use at a tick that there is.
func (m *market) usedAt(t int) int {
	free, _ := m.freeAt(t)
	return m.units[t] - free
}

func (m *market) hasTenant(tenant int) bool {
	return within(tenant, 0, m.config.Tenants-1)
}

// find tells at which index a tenant's bid stands, or why there is none.
func (m *market) find(name api.Name) (int, api.Errno) {
	if !m.hasTenant(name.Tenant) {
		return 0, api.ErrTenant
	}
	i := m.indexOf(name)
	if i < 0 {
		return 0, api.ErrRef
	}
	return i, api.OK
}

// indexOf tells at which index a bid stands; -1, if there is none of this name.
func (m *market) indexOf(name api.Name) int {
	for i := range m.bids {
		if m.bids[i].name == name {
			return i
		}
	}
	return -1
}

func (m *market) countPending(tenant int) int {
	count := 0
	for i := range m.bids {
		if m.bids[i].name.Tenant == tenant && m.bids[i].fate.State == api.Pending {
			count++
		}
	}
	return count
}

// canRun tells whether a job that is submitted now is right, and could still run in time.
func (m *market) canRun(job api.Job) bool {
	ticks := m.config.Ticks
	// An Arrive above Ticks or a Deadline below 0 is too late or too early for every job; refused here, neither lets the sum below wrap around.
	if !within(job.Arrive, 0, ticks) || !within(job.Deadline, 0, ticks) {
		return false
	}
	if !within(job.Len, 1, ticks) || !within(job.Units, 1, api.MaxUnits) || !within(job.Value, 1, api.MaxValue) {
		return false
	}
	arrival := job.Arrive
	if arrival < m.time {
		arrival = m.time
	}
	return arrival+job.Len <= job.Deadline
}
