package yard_test

import (
	"math/rand"
	"slices"
	"testing"

	"yard/api"
	"yard/yard"
)

// model is a market as the document's words have it, without a thought of speed.
type model struct {
	c         api.Config
	time      int
	log       []call
	bids      []*modelBid // the older ones first
	suspended map[int]bool
	units     map[int]int
	paid      map[int]int
	invoices  []api.Invoice
}

type modelBid struct {
	name    api.Name
	job     api.Job
	arrival int
	fate    api.Bid
	entry   int // of the log: the call that submitted it
	charged bool
}

// call is one of the calls that are logged, with what is handed in.
type call struct {
	kind     string
	tenant   int
	ref      int
	job      api.Job
	from, to int
	units    int
	on       bool
	cents    int
}

type answer struct {
	names    []api.Name
	invoices []api.Invoice
	e        api.Errno
}

// of makes the call of a market.
func (x call) of(y *yard.Yard) (a answer) {
	switch x.kind {
	case "Submit":
		a.e = y.Submit(x.tenant, x.ref, x.job)
	case "Cancel":
		a.e = y.Cancel(x.tenant, x.ref)
	case "Capacity":
		a.e = y.Capacity(x.from, x.to, x.units)
	case "Suspend":
		a.e = y.Suspend(x.tenant, x.on)
	case "Tick":
		a.names, a.e = y.Tick()
	case "Bill":
		a.invoices, a.e = y.Bill()
	case "Pay":
		a.e = y.Pay(x.tenant, x.cents)
	}
	return a
}

// make makes the call of the model.
func (m *model) make(x call) (a answer) {
	if len(m.log) == 300 {
		return answer{e: api.ErrFull}
	}
	switch x.kind {
	case "Submit":
		a.e = m.submit(x.tenant, x.ref, x.job)
	case "Cancel":
		a.e = m.cancel(x.tenant, x.ref)
	case "Capacity":
		a.e = m.capacity(x.from, x.to, x.units)
	case "Suspend":
		a.e = m.suspend(x.tenant, x.on)
	case "Tick":
		a.names, a.e = m.tick()
	case "Bill":
		a.invoices = m.bill()
	case "Pay":
		a.e = m.pay(x.tenant, x.cents)
	}
	m.log = append(m.log, x)
	return a
}

func newModel(c api.Config) *model {
	m := &model{c: c, suspended: map[int]bool{}, units: map[int]int{}, paid: map[int]int{}}
	for t := range c.Ticks {
		m.units[t] = c.Capacity
	}
	return m
}

func (m *model) noTenant(tenant int) bool { return tenant < 0 || tenant >= m.c.Tenants }

func (m *model) bid(tenant, ref int) *modelBid {
	for _, b := range m.bids {
		if b.name == name(tenant, ref) {
			return b
		}
	}
	return nil
}

func (m *model) pendingOf(tenant int) int {
	n := 0
	for _, b := range m.bids {
		if b.name.Tenant == tenant && b.fate.State == api.Pending {
			n++
		}
	}
	return n
}

// inUse sums up the jobs that run at a tick.
func (m *model) inUse(t int) int {
	sum := 0
	for _, b := range m.bids {
		if b.fate.State == api.Won && b.fate.Start <= t && t < b.fate.Start+b.job.Len {
			sum += b.job.Units
		}
	}
	return sum
}

func (m *model) submit(tenant, ref int, j api.Job) api.Errno {
	arrival := max(j.Arrive, m.time)
	switch {
	case m.noTenant(tenant):
		return api.ErrTenant
	case m.suspended[tenant]:
		return api.ErrSuspended
	case ref < 1 || ref > 1<<30 || m.bid(tenant, ref) != nil:
		return api.ErrRef
	case j.Arrive < 0 || j.Len < 1 || j.Len > m.c.Ticks || j.Units < 1 || j.Units > 1000 || j.Value < 1 || j.Value > 1<<20 || j.Deadline > m.c.Ticks || arrival+j.Len > j.Deadline:
		return api.ErrJob
	case m.pendingOf(tenant) == m.c.Quota:
		return api.ErrQuota
	}
	m.bids = append(m.bids, &modelBid{name: name(tenant, ref), job: j, arrival: arrival, fate: pending(), entry: len(m.log)})
	return api.OK
}

func (m *model) cancel(tenant, ref int) api.Errno {
	b := m.bid(tenant, ref)
	switch {
	case m.noTenant(tenant):
		return api.ErrTenant
	case b == nil:
		return api.ErrRef
	case b.fate.State != api.Pending:
		return api.ErrState
	}
	b.fate = cancelled()
	return api.OK
}

func (m *model) suspend(tenant int, on bool) api.Errno {
	if m.noTenant(tenant) {
		return api.ErrTenant
	}
	m.suspended[tenant] = on
	return api.OK
}

func (m *model) capacity(from, to, units int) api.Errno {
	if from < m.time || from >= to || to > m.c.Ticks || units < 0 || units > 100000 {
		return api.ErrArg
	}
	for t := from; t < to; t++ {
		if m.inUse(t) > units {
			return api.ErrUsed
		}
	}
	for t := from; t < to; t++ {
		m.units[t] = units
	}
	return api.OK
}

// couldStart tells whether a bid may start at the tick t, as far as it hangs on the bid and its tenant.
func (m *model) couldStart(b *modelBid, t int) bool {
	return b.fate.State == api.Pending && !m.suspended[b.name.Tenant] && b.arrival <= t && t+b.job.Len <= b.job.Deadline
}

// fits tells whether a bid's units are free at each of its ticks from t on.
func (m *model) fits(b *modelBid, t int) bool {
	for s := t; s < t+b.job.Len; s++ {
		if m.units[s]-m.inUse(s) < b.job.Units {
			return false
		}
	}
	return true
}

func (m *model) paysReserve(b *modelBid) bool {
	return b.job.Value >= m.c.Reserve*b.job.Len*b.job.Units
}

// ahead: a and b stand at these places of the bids.
func (m *model) ahead(a, b int) bool {
	j, k := m.bids[a].job, m.bids[b].job
	left, right := j.Value*(k.Len*k.Units), k.Value*(j.Len*j.Units)
	return left > right || left == right && a < b
}

func (m *model) tick() ([]api.Name, api.Errno) {
	if m.time == m.c.Ticks {
		return nil, api.ErrOver
	}
	t := m.time
	rest := map[int]bool{}
	for i, b := range m.bids {
		if m.couldStart(b, t) {
			rest[i] = true
		}
	}
	var started []api.Name
	for len(rest) > 0 {
		first := -1
		for i := range rest {
			if first < 0 || m.ahead(i, first) {
				first = i
			}
		}
		delete(rest, first)
		if b := m.bids[first]; m.paysReserve(b) && m.fits(b, t) {
			b.fate = won(t)
			started = append(started, b.name)
		}
	}
	m.time++
	for _, b := range m.bids {
		if b.fate.State == api.Pending && m.time+b.job.Len > b.job.Deadline {
			b.fate = expired()
		}
	}
	return started, api.OK
}

// wins tells whether a bid is Won in the end of a replay of the log with the value v. Bills and payments are left out: no bid's fate hangs on them.
func (m *model) wins(b *modelBid, v int) bool {
	replay := newModel(m.c)
	for i, x := range m.log {
		if i == b.entry {
			x.job.Value = v
		}
		if x.kind == "Bill" || x.kind == "Pay" {
			continue
		}
		replay.make(x)
	}
	return replay.bid(b.name.Tenant, b.name.Ref).fate.State == api.Won
}

// price tries one value after the other, from 1 on.
func (m *model) price(b *modelBid) int {
	v := 1
	for !m.wins(b, v) {
		v++
	}
	return v
}

func (m *model) bill() []api.Invoice {
	var charged []api.Invoice
	for _, b := range m.bids {
		if b.fate.State == api.Won && !b.charged && m.time > b.job.Deadline-b.job.Len {
			b.charged = true
			charged = append(charged, invoice(b.name.Tenant, b.name.Ref, m.price(b)))
		}
	}
	m.invoices = append(m.invoices, charged...)
	return charged
}

func (m *model) pay(tenant, cents int) api.Errno {
	switch {
	case m.noTenant(tenant):
		return api.ErrTenant
	case cents < 1 || cents > 1<<30:
		return api.ErrArg
	}
	m.paid[tenant] += cents
	return api.OK
}

// agrees asks everything that can be asked of a market but prices, and whether the model says the same.
func (m *model) agrees(t *testing.T, y *yard.Yard) {
	t.Helper()
	wantLeft(t, y, 300-len(m.log))
	wantNow(t, y, m.time)
	for i := range m.c.Ticks {
		want := m.units[i] - m.inUse(i)
		if n, e := y.Free(i); n != want || e != api.OK {
			t.Errorf("P11: Free(%d) = %d, %d, want %d", i, n, e, want)
		}
	}
	for tenant := -1; tenant <= m.c.Tenants; tenant++ {
		for ref := range refs {
			b := m.bid(tenant, ref)
			switch {
			case m.noTenant(tenant):
				wantLook(t, y, tenant, ref, api.Bid{}, api.ErrTenant)
			case b == nil:
				wantLook(t, y, tenant, ref, api.Bid{}, api.ErrRef)
			default:
				wantLook(t, y, tenant, ref, b.fate, api.OK)
			}
		}
		m.agreesOnAccount(t, y, tenant)
	}
}

func (m *model) agreesOnAccount(t *testing.T, y *yard.Yard, tenant int) {
	t.Helper()
	if m.noTenant(tenant) {
		wantNoAccount(t, y, tenant)
		return
	}
	balance := m.paid[tenant]
	var charged []api.Invoice
	for _, v := range m.invoices {
		if v.Tenant == tenant {
			balance -= v.Cents
			charged = append(charged, v)
		}
	}
	wantBalance(t, y, tenant, balance)
	wantInvoices(t, y, tenant, charged...)
}

// agreesOnPrices asks for the price of every bid that there is, and of some that there are not.
func (m *model) agreesOnPrices(t *testing.T, y *yard.Yard) {
	t.Helper()
	for tenant := -1; tenant <= m.c.Tenants; tenant++ {
		for ref := range refs {
			b := m.bid(tenant, ref)
			switch {
			case m.noTenant(tenant):
				wantNoPrice(t, y, tenant, ref, api.ErrTenant)
			case b == nil:
				wantNoPrice(t, y, tenant, ref, api.ErrRef)
			case b.fate.State != api.Won:
				wantNoPrice(t, y, tenant, ref, api.ErrState)
			default:
				wantPrice(t, y, tenant, ref, m.price(b))
			}
		}
	}
}

// refs: random references are below this number.
const refs = 50

// randomJob is mostly right, and small enough that several run at once and are often worth the same for their size; each of its numbers may be just beyond its bounds.
func randomJob(r *rand.Rand, c api.Config, time int) api.Job {
	n := 1 + r.Intn(min(4, c.Ticks))
	arrive := max(0, time-1) + r.Intn(3)
	j := job(arrive, min(c.Ticks, arrive+n+r.Intn(5)), n, 1+r.Intn(3), 1+r.Intn(12))
	switch r.Intn(40) {
	case 0:
		j.Units = 0
	case 1:
		j.Units = 1001
	case 2:
		j.Value = 0
	case 3:
		j.Value = 1<<20 + 1
	case 4:
		j.Arrive = -1
	case 5:
		j.Len = 0
	case 6:
		j.Len = c.Ticks + 1
	case 7:
		j.Deadline = arrive + n - 1
	case 8: // too many units to win: the model would try every value
		j.Units, j.Value = 9+r.Intn(992), 1+r.Intn(1<<20)
	case 9:
		j.Deadline = c.Ticks + 1
	}
	return j
}

func randomConfig(r *rand.Rand) api.Config {
	return api.Config{Ticks: 1 + r.Intn(50), Capacity: r.Intn(9), Reserve: r.Intn(3), Tenants: 1 + r.Intn(4), Quota: 1 + r.Intn(8)}
}

// randomCall draws a call of any kind but Bill.
func randomCall(r *rand.Rand, m *model) call {
	x := call{kind: "Submit", tenant: r.Intn(m.c.Tenants), ref: r.Intn(refs), job: randomJob(r, m.c, m.time)}
	switch r.Intn(40) {
	case 0:
		x.tenant = -1
	case 1:
		x.tenant = m.c.Tenants
	}
	switch r.Intn(20) {
	case 0, 1:
		x.kind = "Cancel"
	case 2:
		x.kind, x.on = "Suspend", r.Intn(3) == 0
	case 3:
		x.kind, x.from, x.units = "Capacity", m.time+r.Intn(4)-1, r.Intn(9)-1
		x.to = x.from + r.Intn(4)
	case 4, 5:
		x.kind = "Tick"
	case 6:
		x.kind, x.cents = "Pay", r.Intn(20)-1
	}
	return x
}

// both makes a call of a market and of the model, and tells whether it was a Tick answered OK.
func both(t *testing.T, x call, y *yard.Yard, m *model) bool {
	t.Helper()
	want, got := m.make(x), x.of(y)
	if got.e != want.e || !slices.Equal(got.names, want.names) || !slices.Equal(got.invoices, want.invoices) {
		t.Errorf("P7 to P15: the call %+v is answered %+v, want %+v", x, got, want)
	}
	if got.e != api.OK && (got.names != nil || got.invoices != nil) {
		t.Errorf("P1: the call %+v is answered %+v", x, got)
	}
	return x.kind == "Tick" && want.e == api.OK
}

func TestRandomCallsAgainstTheModel(t *testing.T) {
	r := rand.New(rand.NewSource(1))
	for range 150 {
		c := randomConfig(r)
		y, m := open(t, c), newModel(c)
		for range 310 {
			both(t, randomCall(r, m), y, m)
			m.agrees(t, y)
			if t.Failed() {
				t.Fatalf("configuration %+v, entry %d", c, len(m.log))
			}
		}
	}
}

// smallConfig is of a market that is over soon, so that every price can be tried value by value.
func smallConfig(r *rand.Rand) api.Config {
	return api.Config{Ticks: 1 + r.Intn(10), Capacity: 1 + r.Intn(6), Reserve: max(0, r.Intn(5)-2), Tenants: 1 + r.Intn(4), Quota: 1 + r.Intn(6)}
}

// smallCall draws a call of any kind; ticks and bills come often.
func smallCall(r *rand.Rand, m *model) call {
	switch r.Intn(10) {
	case 0:
		return call{kind: "Tick"}
	case 1:
		return call{kind: "Bill"}
	}
	return randomCall(r, m)
}

func TestRandomPricesAgainstTheModel(t *testing.T) {
	r := rand.New(rand.NewSource(3))
	for range 600 {
		c := smallConfig(r)
		y, m := open(t, c), newModel(c)
		for i := range 60 {
			both(t, smallCall(r, m), y, m)
			m.agrees(t, y)
			if i%6 == 5 {
				m.agreesOnPrices(t, y)
			}
			if t.Failed() {
				t.Fatalf("configuration %+v, log %+v", c, m.log)
			}
		}
	}
}
