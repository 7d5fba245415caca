package yard_test

import (
	"math"
	"testing"

	"yard/api"
	"yard/yard"
)

// wild are numbers that are wrong nearly everywhere, and at which sums wrap around.
func wild() []int {
	return []int{math.MinInt, math.MinInt + 1, -1 << 62, -1 << 32, -1 << 31, -1, 1 << 31, 1 << 32, 1<<32 + 1, 1 << 62, math.MaxInt - 1, math.MaxInt}
}

func open(t *testing.T, c api.Config) *yard.Yard {
	t.Helper()
	y, e := yard.Open(c)
	if y == nil || e != api.OK {
		t.Fatalf("P7: Open(%+v) = %v, %d", c, y, e)
	}
	return y
}

// small is a job that every market takes while its time is 0.
func small() api.Job {
	return api.Job{Arrive: 0, Deadline: 1, Len: 1, Units: 1, Value: 1}
}

func wantSubmit(t *testing.T, y *yard.Yard, tenant, ref int, job api.Job, want api.Errno) {
	t.Helper()
	if e := y.Submit(tenant, ref, job); e != want {
		t.Errorf("P8: Submit(%d, %d, %+v) = %d, want %d", tenant, ref, job, e, want)
	}
}

func wantCancel(t *testing.T, y *yard.Yard, tenant, ref int, want api.Errno) {
	t.Helper()
	if e := y.Cancel(tenant, ref); e != want {
		t.Errorf("P9: Cancel(%d, %d) = %d, want %d", tenant, ref, e, want)
	}
}

func wantSuspend(t *testing.T, y *yard.Yard, tenant int, on bool, want api.Errno) {
	t.Helper()
	if e := y.Suspend(tenant, on); e != want {
		t.Errorf("P9: Suspend(%d, %v) = %d, want %d", tenant, on, e, want)
	}
}

func wantCapacity(t *testing.T, y *yard.Yard, from, to, units int, want api.Errno) {
	t.Helper()
	if e := y.Capacity(from, to, units); e != want {
		t.Errorf("P10: Capacity(%d, %d, %d) = %d, want %d", from, to, units, e, want)
	}
}

func wantLook(t *testing.T, y *yard.Yard, tenant, ref int, want api.Bid, wantErr api.Errno) {
	t.Helper()
	if b, e := y.Look(tenant, ref); b != want || e != wantErr {
		t.Errorf("P11: Look(%d, %d) = %+v, %d, want %+v, %d", tenant, ref, b, e, want, wantErr)
	}
}

func wantFree(t *testing.T, y *yard.Yard, want ...int) {
	t.Helper()
	for i, w := range want {
		if n, e := y.Free(i); n != w || e != api.OK {
			t.Errorf("P11: Free(%d) = %d, %d, want %d", i, n, e, w)
		}
	}
}

func wantLeft(t *testing.T, y *yard.Yard, want int) {
	t.Helper()
	if n := y.Left(); n != want {
		t.Errorf("P7: Left() = %d, want %d", n, want)
	}
}

func pending() api.Bid   { return api.Bid{State: 1, Start: -1} }
func cancelled() api.Bid { return api.Bid{State: 3, Start: -1} }

func TestOpenRefuses(t *testing.T) {
	for _, f := range fields() {
		for _, n := range append(wild(), f.least-1, f.greatest+1) {
			c := ordinary()
			f.set(&c, n)
			if yard.Check(c) == api.OK {
				continue
			}
			if y, e := yard.Open(c); y != nil || e != api.ErrConfig {
				t.Errorf("P7: Open(%+v) = %v, %d, want nil, 1", c, y, e)
			}
		}
	}
}

func TestOpenGivesAFreshMarket(t *testing.T) {
	for _, f := range fields() {
		for _, n := range []int{f.least, f.greatest} {
			c := ordinary()
			f.set(&c, n)
			y := open(t, c)
			if n := y.Now(); n != 0 {
				t.Errorf("P7: Now() = %d in a fresh market", n)
			}
			wantLeft(t, y, 300)
			for i := range c.Ticks {
				if n, e := y.Free(i); n != c.Capacity || e != api.OK {
					t.Errorf("P11: Free(%d) = %d, %d in a fresh market of %+v", i, n, e, c)
				}
			}
			for tenant := range c.Tenants {
				wantLook(t, y, tenant, 1, api.Bid{}, api.ErrRef)
				wantSubmit(t, y, tenant, 1, small(), api.OK)
			}
			wantSubmit(t, y, c.Tenants, 1, small(), api.ErrTenant)
		}
	}
}

// logged makes one of the seven calls that are logged, with right or wrong numbers; it tells its name, its error, and whether its list, if it has one, is nil.
func logged(y *yard.Yard, kind int, right bool) (string, api.Errno, bool) {
	tenant, from := 0, 0
	if !right {
		tenant, from = -1, -1
	}
	switch kind {
	case 0:
		return "Submit", y.Submit(tenant, 7, small()), true
	case 1:
		return "Cancel", y.Cancel(tenant, 7), true
	case 2:
		return "Capacity", y.Capacity(from, 1, 9), true
	case 3:
		return "Suspend", y.Suspend(tenant, true), true
	case 4:
		names, e := y.Tick()
		return "Tick", e, names == nil
	case 5:
		invoices, e := y.Bill()
		return "Bill", e, invoices == nil
	}
	return "Pay", y.Pay(tenant, 1), true
}

func TestEveryLoggedCallIsAnEntry(t *testing.T) {
	for kind := range 7 {
		for _, right := range []bool{true, false} {
			y := open(t, ordinary())
			for i := range 300 {
				wantLeft(t, y, 300-i)
				if name, e, _ := logged(y, kind, right); e == api.ErrFull {
					t.Fatalf("P7: %s = ErrFull behind %d entries", name, i)
				}
			}
			wantLeft(t, y, 0)
		}
	}
}

func TestEveryLoggedCallFirstAnswersErrFull(t *testing.T) {
	y := open(t, ordinary())
	wantSubmit(t, y, 0, 1, small(), api.OK)
	for range 299 {
		wantCancel(t, y, 0, 2, api.ErrRef)
	}
	for kind := range 7 {
		for _, right := range []bool{false, true} {
			if name, e, zero := logged(y, kind, right); e != api.ErrFull || !zero {
				t.Errorf("P7: %s (right %v) = %d, nothing else %v, when the log is full", name, right, e, zero)
			}
			wantLeft(t, y, 0)
		}
	}
	if e := y.Cancel(0, 1); e != api.ErrFull {
		t.Errorf("P7: Cancel(0, 1) = %d, when the log is full", e)
	}
	wantLook(t, y, 0, 1, pending(), api.OK)
	wantLook(t, y, 0, 7, api.Bid{}, api.ErrRef)
	wantFree(t, y, 4, 4, 4, 4, 4, 4)
}

func TestOtherCallsAreNoEntries(t *testing.T) {
	y := open(t, ordinary())
	wantSubmit(t, y, 0, 1, small(), api.OK)
	for tenant := -1; tenant < 4; tenant++ {
		y.Now()
		y.Look(tenant, 1)
		y.Free(tenant)
		y.Price(tenant, 1)
		y.Balance(tenant)
		y.Invoices(tenant)
		wantLeft(t, y, 299)
	}
}

// part is a number of a job, with its bounds in the market ordinary() written out.
type part struct {
	least, greatest int
	set             func(j *api.Job, n int)
}

func TestSubmitBoundsOfAJob(t *testing.T) {
	parts := []part{
		{0, 5, func(j *api.Job, n int) { j.Arrive = n }},
		{1, 6, func(j *api.Job, n int) { j.Deadline = n }},
		{1, 6, func(j *api.Job, n int) { j.Len = n }},
		{1, 1000, func(j *api.Job, n int) { j.Units = n }},
		{1, 1 << 20, func(j *api.Job, n int) { j.Value = n }},
	}
	for _, p := range parts {
		for _, n := range append(wild(), p.least-1, p.least, p.greatest, p.greatest+1) {
			want := api.ErrJob
			if p.least <= n && n <= p.greatest {
				want = api.OK
			}
			job := api.Job{Arrive: 0, Deadline: 6, Len: 1, Units: 1, Value: 1}
			p.set(&job, n)
			wantSubmit(t, open(t, ordinary()), 0, 1, job, want)
		}
	}
}

func TestSubmitJobsThatFitAndDoNot(t *testing.T) {
	c := ordinary()
	c.Ticks = 3
	for arrive := -1; arrive <= 5; arrive++ {
		for deadline := -1; deadline <= 5; deadline++ {
			for n := -1; n <= 5; n++ {
				want := api.OK
				if arrive < 0 || n < 1 || n > 3 || deadline > 3 || arrive+n > deadline {
					want = api.ErrJob
				}
				wantSubmit(t, open(t, c), 0, 1, api.Job{Arrive: arrive, Deadline: deadline, Len: n, Units: 1, Value: 1}, want)
			}
		}
	}
}

func TestSubmitWildJobs(t *testing.T) {
	y := open(t, ordinary())
	for _, arrive := range append(wild(), 0) {
		for _, deadline := range append(wild(), 6) {
			for _, n := range append(wild(), 1) {
				if arrive == 0 && deadline == 6 && n == 1 {
					continue
				}
				if y.Left() == 0 {
					y = open(t, ordinary())
				}
				wantSubmit(t, y, 0, 1, api.Job{Arrive: arrive, Deadline: deadline, Len: n, Units: 1, Value: 1}, api.ErrJob)
			}
		}
	}
}

func TestSubmitReferences(t *testing.T) {
	c := ordinary()
	c.Quota = 16
	y := open(t, c)
	for _, ref := range []int{1, 2, 1<<30 - 1, 1 << 30} {
		for tenant := range 3 {
			wantSubmit(t, y, tenant, ref, small(), api.OK)
			wantLook(t, y, tenant, ref, pending(), api.OK)
		}
		for tenant := range 3 {
			wantSubmit(t, y, tenant, ref, small(), api.ErrRef)
		}
	}
	for _, ref := range append(wild(), 0, 1<<30+1) {
		wantSubmit(t, y, 0, ref, small(), api.ErrRef)
		wantLook(t, y, 0, ref, api.Bid{}, api.ErrRef)
		wantCancel(t, y, 0, ref, api.ErrRef)
	}
	wantCancel(t, y, 0, 1, api.OK)
	wantSubmit(t, y, 0, 1, small(), api.ErrRef)
	wantLook(t, y, 0, 1, cancelled(), api.OK)
}

func TestSubmitQuota(t *testing.T) {
	for quota := 1; quota <= 16; quota++ {
		c := ordinary()
		c.Quota = quota
		y := open(t, c)
		for ref := 1; ref <= quota; ref++ {
			wantSubmit(t, y, 0, ref, small(), api.OK)
		}
		wantSubmit(t, y, 0, 100, small(), api.ErrQuota)
		wantLook(t, y, 0, 100, api.Bid{}, api.ErrRef)
		wantSubmit(t, y, 1, 100, small(), api.OK)
		wantCancel(t, y, 0, quota, api.OK)
		wantSubmit(t, y, 0, 100, small(), api.OK)
		wantSubmit(t, y, 0, 101, small(), api.ErrQuota)
	}
}

// Every set of wrong things at once: the answer is the one that the document names first.
func TestSubmitOrderOfErrors(t *testing.T) {
	errors := []api.Errno{api.ErrTenant, api.ErrSuspended, api.ErrRef, api.ErrJob, api.ErrQuota}
	for set := range 1 << len(errors) {
		for _, used := range []bool{false, true} {
			y := open(t, ordinary())
			wantSubmit(t, y, 0, 1, small(), api.OK)
			tenant, ref, job := 0, 2, small()
			if set&1 != 0 {
				tenant = 3
			}
			if set&2 != 0 {
				wantSuspend(t, y, 0, true, api.OK)
			}
			if set&4 != 0 {
				ref = 0
			}
			if set&4 != 0 && used && tenant == 0 {
				ref = 1
			}
			if set&8 != 0 {
				job.Len = 0
			}
			if set&16 != 0 {
				wantSuspend(t, y, 0, false, api.OK)
				wantSubmit(t, y, 0, 3, small(), api.OK)
				wantSuspend(t, y, 0, set&2 != 0, api.OK)
			}
			want := api.OK
			for i := len(errors) - 1; i >= 0; i-- {
				if set>>i&1 != 0 {
					want = errors[i]
				}
			}
			wantSubmit(t, y, tenant, ref, job, want)
		}
	}
}

func TestTenantsThatAreNone(t *testing.T) {
	for _, tenants := range []int{1, 3, 8} {
		c := ordinary()
		c.Tenants = tenants
		y := open(t, c)
		for _, tenant := range append(wild(), tenants) {
			wantSubmit(t, y, tenant, 0, api.Job{}, api.ErrTenant)
			wantCancel(t, y, tenant, 0, api.ErrTenant)
			wantSuspend(t, y, tenant, true, api.ErrTenant)
			wantSuspend(t, y, tenant, false, api.ErrTenant)
			wantLook(t, y, tenant, 0, api.Bid{}, api.ErrTenant)
		}
		wantSubmit(t, y, tenants-1, 1, small(), api.OK)
	}
}

func TestCancel(t *testing.T) {
	y := open(t, ordinary())
	wantSubmit(t, y, 0, 1, small(), api.OK)
	wantSubmit(t, y, 0, 2, small(), api.OK)
	wantSubmit(t, y, 1, 1, small(), api.OK)
	wantCancel(t, y, 1, 2, api.ErrRef)
	wantCancel(t, y, 2, 1, api.ErrRef)
	wantCancel(t, y, 0, 1, api.OK)
	wantCancel(t, y, 0, 1, api.ErrState)
	wantLook(t, y, 0, 1, cancelled(), api.OK)
	wantLook(t, y, 0, 2, pending(), api.OK)
	wantLook(t, y, 1, 1, pending(), api.OK)
}

func TestSuspend(t *testing.T) {
	y := open(t, ordinary())
	wantSuspend(t, y, 1, false, api.OK)
	wantSubmit(t, y, 1, 1, small(), api.OK)
	wantSubmit(t, y, 1, 2, small(), api.OK)
	wantSuspend(t, y, 1, true, api.OK)
	wantSubmit(t, y, 1, 3, small(), api.ErrSuspended)
	wantSubmit(t, y, 0, 3, small(), api.OK)
	wantSubmit(t, y, 2, 3, small(), api.OK)
	wantLook(t, y, 1, 1, pending(), api.OK)
	wantCancel(t, y, 1, 1, api.OK)
	wantSuspend(t, y, 1, true, api.OK)
	wantSubmit(t, y, 1, 3, small(), api.ErrSuspended)
	wantSuspend(t, y, 1, false, api.OK)
	wantSubmit(t, y, 1, 3, small(), api.OK)
	wantSuspend(t, y, 1, false, api.OK)
	wantLook(t, y, 1, 2, pending(), api.OK)
}

func TestCapacityPieces(t *testing.T) {
	c := ordinary()
	c.Ticks = 3
	for from := -1; from <= 4; from++ {
		for to := -1; to <= 4; to++ {
			for _, units := range append(wild(), 0, 1, 9, 99999, 100000, 100001) {
				y := open(t, c)
				want, free := api.ErrArg, []int{4, 4, 4}
				if 0 <= from && from < to && to <= 3 && 0 <= units && units <= 100000 {
					want = api.OK
					for i := from; i < to; i++ {
						free[i] = units
					}
				}
				wantCapacity(t, y, from, to, units, want)
				wantFree(t, y, free...)
			}
		}
	}
}

func TestCapacityWildPieces(t *testing.T) {
	y := open(t, ordinary())
	for _, n := range wild() {
		wantCapacity(t, y, n, 6, 1, api.ErrArg)
		wantCapacity(t, y, 0, n, 1, api.ErrArg)
		wantCapacity(t, y, n, n, 1, api.ErrArg)
		wantCapacity(t, y, n, n+1, 1, api.ErrArg)
		wantCapacity(t, y, n-1, n, 1, api.ErrArg)
	}
	wantFree(t, y, 4, 4, 4, 4, 4, 4)
}

func TestCapacityIsSetAnew(t *testing.T) {
	y := open(t, ordinary())
	wantCapacity(t, y, 1, 4, 0, api.OK)
	wantFree(t, y, 4, 0, 0, 0, 4, 4)
	wantCapacity(t, y, 3, 6, 100000, api.OK)
	wantFree(t, y, 4, 0, 0, 100000, 100000, 100000)
	wantCapacity(t, y, 0, 6, 7, api.OK)
	wantFree(t, y, 7, 7, 7, 7, 7, 7)
}

func TestFreeOfNoTick(t *testing.T) {
	for _, ticks := range []int{1, 6, 64} {
		c := ordinary()
		c.Ticks = ticks
		y := open(t, c)
		for _, i := range append(wild(), ticks) {
			if n, e := y.Free(i); n != 0 || e != api.ErrArg {
				t.Errorf("P11: Free(%d) of %d ticks = %d, %d, want 0, 9", i, ticks, n, e)
			}
		}
	}
}

func TestPendingBidsUseNothing(t *testing.T) {
	y := open(t, ordinary())
	wantSubmit(t, y, 0, 1, api.Job{Arrive: 0, Deadline: 6, Len: 6, Units: 1000, Value: 1 << 20}, api.OK)
	wantFree(t, y, 4, 4, 4, 4, 4, 4)
	wantCapacity(t, y, 0, 6, 0, api.OK)
	wantLook(t, y, 0, 1, pending(), api.OK)
}

func TestMarketsAreApart(t *testing.T) {
	y, z := open(t, ordinary()), open(t, ordinary())
	wantSubmit(t, y, 0, 1, small(), api.OK)
	wantSuspend(t, y, 1, true, api.OK)
	wantCapacity(t, y, 0, 6, 9, api.OK)
	wantLeft(t, z, 300)
	wantFree(t, z, 4, 4, 4, 4, 4, 4)
	wantLook(t, z, 0, 1, api.Bid{}, api.ErrRef)
	wantSubmit(t, z, 1, 1, small(), api.OK)
	wantSubmit(t, z, 0, 1, small(), api.OK)
	wantCancel(t, z, 0, 1, api.OK)
	wantLook(t, y, 0, 1, pending(), api.OK)
	wantLook(t, y, 1, 1, api.Bid{}, api.ErrRef)
}
