package yard_test

import (
	"math/rand"
	"testing"

	"yard/api"
	"yard/yard"
)

// model is a market as the document's words have it, without a thought of speed.
type model struct {
	c         api.Config
	time      int
	entries   int
	bids      []*modelBid // the older ones first
	suspended map[int]bool
	units     map[int]int
}

type modelBid struct {
	name    api.Name
	job     api.Job
	arrival int
	fate    api.Bid
}

func newModel(c api.Config) *model {
	m := &model{c: c, suspended: map[int]bool{}, units: map[int]int{}}
	for t := range c.Ticks {
		m.units[t] = c.Capacity
	}
	return m
}

func (m *model) noTenant(tenant int) bool { return tenant < 0 || tenant >= m.c.Tenants }

func (m *model) bid(tenant, ref int) *modelBid {
	for _, b := range m.bids {
		if b.name == name(tenant, ref) {
			return b
		}
	}
	return nil
}

func (m *model) pendingOf(tenant int) int {
	n := 0
	for _, b := range m.bids {
		if b.name.Tenant == tenant && b.fate.State == api.Pending {
			n++
		}
	}
	return n
}

// inUse sums up the jobs that run at a tick.
func (m *model) inUse(t int) int {
	sum := 0
	for _, b := range m.bids {
		if b.fate.State == api.Won && b.fate.Start <= t && t < b.fate.Start+b.job.Len {
			sum += b.job.Units
		}
	}
	return sum
}

func (m *model) submit(tenant, ref int, j api.Job) api.Errno {
	arrival := max(j.Arrive, m.time)
	switch {
	case m.entries == 300:
		return api.ErrFull
	case m.noTenant(tenant):
		return api.ErrTenant
	case m.suspended[tenant]:
		return api.ErrSuspended
	case ref < 1 || ref > 1<<30 || m.bid(tenant, ref) != nil:
		return api.ErrRef
	case j.Arrive < 0 || j.Len < 1 || j.Len > m.c.Ticks || j.Units < 1 || j.Units > 1000 || j.Value < 1 || j.Value > 1<<20 || j.Deadline > m.c.Ticks || arrival+j.Len > j.Deadline:
		return api.ErrJob
	case m.pendingOf(tenant) == m.c.Quota:
		return api.ErrQuota
	}
	m.bids = append(m.bids, &modelBid{name(tenant, ref), j, arrival, pending()})
	return api.OK
}

func (m *model) cancel(tenant, ref int) api.Errno {
	b := m.bid(tenant, ref)
	switch {
	case m.entries == 300:
		return api.ErrFull
	case m.noTenant(tenant):
		return api.ErrTenant
	case b == nil:
		return api.ErrRef
	case b.fate.State != api.Pending:
		return api.ErrState
	}
	b.fate = cancelled()
	return api.OK
}

func (m *model) suspend(tenant int, on bool) api.Errno {
	switch {
	case m.entries == 300:
		return api.ErrFull
	case m.noTenant(tenant):
		return api.ErrTenant
	}
	m.suspended[tenant] = on
	return api.OK
}

func (m *model) capacity(from, to, units int) api.Errno {
	switch {
	case m.entries == 300:
		return api.ErrFull
	case from < m.time || from >= to || to > m.c.Ticks || units < 0 || units > 100000:
		return api.ErrArg
	}
	for t := from; t < to; t++ {
		if m.inUse(t) > units {
			return api.ErrUsed
		}
	}
	for t := from; t < to; t++ {
		m.units[t] = units
	}
	return api.OK
}

// couldStart tells whether a bid may start at the tick t, as far as it hangs on the bid and its tenant.
func (m *model) couldStart(b *modelBid, t int) bool {
	return b.fate.State == api.Pending && !m.suspended[b.name.Tenant] && b.arrival <= t && t+b.job.Len <= b.job.Deadline
}

// fits tells whether a bid's units are free at each of its ticks from t on.
func (m *model) fits(b *modelBid, t int) bool {
	for s := t; s < t+b.job.Len; s++ {
		if m.units[s]-m.inUse(s) < b.job.Units {
			return false
		}
	}
	return true
}

func (m *model) paysReserve(b *modelBid) bool {
	return b.job.Value >= m.c.Reserve*b.job.Len*b.job.Units
}

// ahead: a and b stand at these places of the bids.
func (m *model) ahead(a, b int) bool {
	j, k := m.bids[a].job, m.bids[b].job
	left, right := j.Value*(k.Len*k.Units), k.Value*(j.Len*j.Units)
	return left > right || left == right && a < b
}

func (m *model) tick() ([]api.Name, api.Errno) {
	switch {
	case m.entries == 300:
		return nil, api.ErrFull
	case m.time == m.c.Ticks:
		return nil, api.ErrOver
	}
	t := m.time
	rest := map[int]bool{}
	for i, b := range m.bids {
		if m.couldStart(b, t) {
			rest[i] = true
		}
	}
	var started []api.Name
	for len(rest) > 0 {
		first := -1
		for i := range rest {
			if first < 0 || m.ahead(i, first) {
				first = i
			}
		}
		delete(rest, first)
		if b := m.bids[first]; m.paysReserve(b) && m.fits(b, t) {
			b.fate = won(t)
			started = append(started, b.name)
		}
	}
	m.time++
	for _, b := range m.bids {
		if b.fate.State == api.Pending && m.time+b.job.Len > b.job.Deadline {
			b.fate = expired()
		}
	}
	return started, api.OK
}

// agrees asks everything that can be asked of a market, and whether the model says the same.
func (m *model) agrees(t *testing.T, y *yard.Yard) {
	t.Helper()
	wantLeft(t, y, 300-m.entries)
	wantNow(t, y, m.time)
	for i := range m.c.Ticks {
		want := m.units[i] - m.inUse(i)
		if n, e := y.Free(i); n != want || e != api.OK {
			t.Errorf("P11: Free(%d) = %d, %d, want %d", i, n, e, want)
		}
	}
	for tenant := -1; tenant <= m.c.Tenants; tenant++ {
		for ref := range refs {
			b := m.bid(tenant, ref)
			switch {
			case m.noTenant(tenant):
				wantLook(t, y, tenant, ref, api.Bid{}, api.ErrTenant)
			case b == nil:
				wantLook(t, y, tenant, ref, api.Bid{}, api.ErrRef)
			default:
				wantLook(t, y, tenant, ref, b.fate, api.OK)
			}
		}
	}
}

// refs: random references are below this number.
const refs = 50

// randomJob is mostly right, and small enough that several run at once and are often worth the same for their size; each of its numbers may be just beyond its bounds.
func randomJob(r *rand.Rand, c api.Config, time int) api.Job {
	n := 1 + r.Intn(min(4, c.Ticks))
	arrive := max(0, time-1) + r.Intn(3)
	j := job(arrive, min(c.Ticks, arrive+n+r.Intn(5)), n, 1+r.Intn(3), 1+r.Intn(12))
	switch r.Intn(40) {
	case 0:
		j.Units = 0
	case 1:
		j.Units = 1001
	case 2:
		j.Value = 0
	case 3:
		j.Value = 1<<20 + 1
	case 4:
		j.Arrive = -1
	case 5:
		j.Len = 0
	case 6:
		j.Len = c.Ticks + 1
	case 7:
		j.Deadline = arrive + n - 1
	case 8:
		j.Units, j.Value = 1+r.Intn(1000), 1+r.Intn(1<<20)
	case 9:
		j.Deadline = c.Ticks + 1
	}
	return j
}

func randomConfig(r *rand.Rand) api.Config {
	return api.Config{Ticks: 1 + r.Intn(50), Capacity: r.Intn(9), Reserve: r.Intn(3), Tenants: 1 + r.Intn(4), Quota: 1 + r.Intn(8)}
}

// step makes one random call of a market and of the model, and tells whether it was a Tick answered OK.
func step(t *testing.T, r *rand.Rand, y *yard.Yard, m *model) bool {
	t.Helper()
	ticked := false
	tenant, ref := r.Intn(m.c.Tenants), r.Intn(refs)
	switch r.Intn(40) {
	case 0:
		tenant = -1
	case 1:
		tenant = m.c.Tenants
	}
	switch r.Intn(20) {
	case 0, 1:
		wantCancel(t, y, tenant, ref, m.cancel(tenant, ref))
	case 2:
		on := r.Intn(3) == 0
		wantSuspend(t, y, tenant, on, m.suspend(tenant, on))
	case 3:
		from := m.time + r.Intn(4) - 1
		to, units := from+r.Intn(4), r.Intn(9)-1
		wantCapacity(t, y, from, to, units, m.capacity(from, to, units))
	case 4, 5:
		names, e := m.tick()
		ticked = e == api.OK
		if ticked {
			wantTick(t, y, names...)
		} else {
			wantNoTick(t, y, e)
		}
	default:
		j := randomJob(r, m.c, m.time)
		wantSubmit(t, y, tenant, ref, j, m.submit(tenant, ref, j))
	}
	m.entries = min(m.entries+1, 300)
	return ticked
}

func TestRandomCallsAgainstTheModel(t *testing.T) {
	r := rand.New(rand.NewSource(1))
	for range 150 {
		c := randomConfig(r)
		y, m := open(t, c), newModel(c)
		for range 310 {
			step(t, r, y, m)
			m.agrees(t, y)
			if t.Failed() {
				t.Fatalf("configuration %+v, entry %d", c, m.entries)
			}
		}
	}
}
