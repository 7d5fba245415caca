package yard_test

import (
	"slices"
	"testing"

	"yard/api"
	"yard/yard"
)

func job(arrive, deadline, n, units, value int) api.Job {
	return api.Job{Arrive: arrive, Deadline: deadline, Len: n, Units: units, Value: value}
}

func name(tenant, ref int) api.Name { return api.Name{Tenant: tenant, Ref: ref} }

func won(start int) api.Bid { return api.Bid{State: 2, Start: start} }
func expired() api.Bid      { return api.Bid{State: 4, Start: -1} }

func wantNow(t *testing.T, y *yard.Yard, want int) {
	t.Helper()
	if n := y.Now(); n != want {
		t.Errorf("P11: Now() = %d, want %d", n, want)
	}
}

// wantTick lets a tick go by, at which these bids are to start, in this order.
func wantTick(t *testing.T, y *yard.Yard, want ...api.Name) {
	t.Helper()
	now := y.Now()
	if names, e := y.Tick(); e != api.OK || !slices.Equal(names, want) {
		t.Errorf("P12: Tick() at the time %d = %v, %d, want %v, 0", now, names, e, want)
	}
	wantNow(t, y, now+1)
}

func wantNoTick(t *testing.T, y *yard.Yard, want api.Errno) {
	t.Helper()
	now := y.Now()
	if names, e := y.Tick(); e != want || names != nil {
		t.Errorf("P12: Tick() at the time %d = %v, %d, want nil, %d", now, names, e, want)
	}
	wantNow(t, y, now)
}

func TestTickOver(t *testing.T) {
	for _, ticks := range []int{1, 2, 63, 64} {
		c := ordinary()
		c.Ticks = ticks
		y := at(t, c, ticks)
		wantLeft(t, y, 300-ticks)
		for range 300 - ticks {
			wantNoTick(t, y, api.ErrOver)
		}
		wantLeft(t, y, 0)
		wantNoTick(t, y, api.ErrFull)
	}
}

func TestTickErrFullChangesNothing(t *testing.T) {
	y := open(t, ordinary())
	wantSubmit(t, y, 0, 1, job(0, 1, 1, 1, 9), api.OK)
	for range 299 {
		wantCancel(t, y, 0, 2, api.ErrRef)
	}
	wantNoTick(t, y, api.ErrFull)
	wantLook(t, y, 0, 1, pending(), api.OK)
	wantFree(t, y, 4, 4, 4, 4, 4, 4)
}

// The 300th entry is still answered.
func TestTickAsTheLastEntry(t *testing.T) {
	y := open(t, ordinary())
	wantSubmit(t, y, 0, 1, job(0, 1, 1, 1, 9), api.OK)
	for range 298 {
		wantCancel(t, y, 0, 2, api.ErrRef)
	}
	wantTick(t, y, name(0, 1))
	wantNoTick(t, y, api.ErrFull)
}

// Bids that all fit start in the order of bids.
func TestTickOrder(t *testing.T) {
	for _, k := range []struct {
		say  string
		jobs []api.Job
		want []int // the places of the jobs above
	}{
		{"one", []api.Job{job(0, 6, 1, 1, 5)}, []int{0}},
		{"by worth", []api.Job{job(0, 6, 1, 1, 5), job(0, 6, 1, 1, 7), job(0, 6, 1, 1, 6)}, []int{1, 2, 0}},
		{"by age", []api.Job{job(0, 6, 1, 1, 5), job(0, 6, 1, 1, 5), job(0, 6, 1, 1, 5), job(0, 6, 1, 1, 5)}, []int{0, 1, 2, 3}},
		{"by worth for the size, not by Value", []api.Job{job(0, 6, 2, 3, 60), job(0, 6, 1, 1, 11), job(0, 6, 3, 1, 27)}, []int{1, 0, 2}},
		{"the same for each, in other shapes", []api.Job{job(0, 6, 3, 2, 12), job(0, 6, 6, 1, 12), job(0, 6, 1, 1, 2), job(0, 6, 2, 3, 13), job(0, 6, 1, 2, 4)}, []int{3, 0, 1, 2, 4}},
		{"not rounded", []api.Job{job(0, 6, 3, 1, 10), job(0, 6, 2, 1, 7), job(0, 6, 3, 1, 11), job(0, 6, 1, 1, 3), job(0, 6, 4, 1, 15)}, []int{4, 2, 1, 0, 3}},
		{"worth less than 1 for each", []api.Job{job(0, 6, 6, 3, 1), job(0, 6, 6, 2, 1), job(0, 6, 5, 3, 1), job(0, 6, 6, 3, 2)}, []int{3, 1, 2, 0}},
		{"not by Arrive or Deadline", []api.Job{job(0, 6, 1, 1, 1), job(0, 1, 1, 1, 1), job(0, 3, 1, 1, 2), job(0, 6, 1, 1, 3)}, []int{3, 2, 0, 1}},
	} {
		y := open(t, api.Config{Ticks: 6, Capacity: 100, Reserve: 0, Tenants: 8, Quota: 1})
		for i, j := range k.jobs {
			wantSubmit(t, y, 7-i, 100-i, j, api.OK)
		}
		var want []api.Name
		for _, i := range k.want {
			want = append(want, name(7-i, 100-i))
		}
		names, e := y.Tick()
		if e != api.OK || !slices.Equal(names, want) {
			t.Errorf("P12: %s: Tick() = %v, %d, want %v, 0", k.say, names, e, want)
		}
	}
}

// The greatest sizes and values: what is compared is exact.
func TestTickOrderOfGreatNumbers(t *testing.T) {
	y := open(t, api.Config{Ticks: 64, Capacity: 100000, Reserve: 0, Tenants: 1, Quota: 16})
	wantSubmit(t, y, 0, 1, job(0, 64, 64, 1000, 1<<20-1), api.OK)
	wantSubmit(t, y, 0, 2, job(0, 64, 64, 1000, 1<<20), api.OK)
	wantSubmit(t, y, 0, 3, job(0, 64, 1, 1, 16), api.OK)
	wantSubmit(t, y, 0, 4, job(0, 64, 1, 1, 17), api.OK)
	wantSubmit(t, y, 0, 5, job(0, 64, 1, 1, 1<<20), api.OK)
	wantSubmit(t, y, 0, 6, job(0, 64, 64, 999, 1<<20), api.OK)
	wantSubmit(t, y, 0, 7, job(0, 64, 64, 1000, 1), api.OK)
	wantSubmit(t, y, 0, 8, job(0, 64, 63, 1000, 1), api.OK)
	wantTick(t, y, name(0, 5), name(0, 4), name(0, 6), name(0, 2), name(0, 1), name(0, 3), name(0, 8), name(0, 7))
	wantFree(t, y, 100000-4*1000-999-2-1, 100000-4*1000-999)
	if n, e := y.Free(63); n != 100000-3*1000-999 || e != api.OK {
		t.Errorf("P11: Free(63) = %d, %d, want %d", n, e, 100000-3*1000-999)
	}
}

// Age is that of the Submit that was answered OK, not of the reference, the tenant, or a refused one.
func TestTickAge(t *testing.T) {
	c := ordinary()
	c.Capacity = 1
	y := open(t, c)
	wantSubmit(t, y, 0, 1, job(1, 6, 1, 1, 0), api.ErrJob)
	wantSubmit(t, y, 2, 9, job(1, 6, 1, 1, 5), api.OK)
	wantSubmit(t, y, 0, 1, job(0, 6, 1, 1, 5), api.OK)
	wantTick(t, y, name(0, 1))
	wantSubmit(t, y, 0, 2, job(0, 6, 1, 1, 5), api.OK)
	wantSubmit(t, y, 1, 1, job(0, 6, 1, 1, 5), api.OK)
	wantTick(t, y, name(2, 9))
	wantTick(t, y, name(0, 2))
	wantTick(t, y, name(1, 1))
}

// A bid that can't start does not hold up those behind it, and takes nothing.
func TestTickGoesOnBehindABidThatDoesNotFit(t *testing.T) {
	y := open(t, ordinary())
	wantSubmit(t, y, 0, 1, job(0, 6, 1, 5, 500), api.OK)
	wantSubmit(t, y, 1, 1, job(0, 6, 1, 3, 30), api.OK)
	wantSubmit(t, y, 2, 1, job(0, 6, 1, 2, 18), api.OK)
	wantSubmit(t, y, 2, 2, job(0, 6, 1, 1, 8), api.OK)
	wantTick(t, y, name(1, 1), name(2, 2))
	wantFree(t, y, 0, 4, 4, 4, 4, 4)
	wantLook(t, y, 0, 1, pending(), api.OK)
	wantTick(t, y, name(2, 1))
	wantCapacity(t, y, 2, 3, 5, api.OK)
	wantTick(t, y, name(0, 1))
	wantLook(t, y, 0, 1, won(2), api.OK)
}

// One tick short of units, wherever it stands, is enough for a job to wait.
func TestTickNeedsItsUnitsAtEachTick(t *testing.T) {
	for short := range 6 {
		y := open(t, ordinary())
		wantCapacity(t, y, short, short+1, 1, api.OK)
		wantSubmit(t, y, 0, 1, job(0, 6, 3, 2, 60), api.OK)
		start := 0
		if short < 3 {
			start = short + 1
		}
		for range start {
			wantTick(t, y)
			wantLook(t, y, 0, 1, pending(), api.OK)
		}
		wantTick(t, y, name(0, 1))
		wantLook(t, y, 0, 1, won(start), api.OK)
		free := []int{4, 4, 4, 4, 4, 4}
		free[short] = 1
		for i := start; i < start+3; i++ {
			free[i] -= 2
		}
		wantFree(t, y, free...)
	}
}

func TestTickTakesTheLastUnit(t *testing.T) {
	for units := 1; units <= 6; units++ {
		y := open(t, ordinary())
		wantSubmit(t, y, 0, 1, job(0, 6, 6, units, 600), api.OK)
		if units > 4 {
			wantTick(t, y)
			wantLook(t, y, 0, 1, expired(), api.OK)
			wantFree(t, y, 4, 4, 4, 4, 4, 4)
			continue
		}
		wantTick(t, y, name(0, 1))
		wantFree(t, y, 4-units, 4-units, 4-units, 4-units, 4-units, 4-units)
	}
}

func TestTickReserveCost(t *testing.T) {
	for _, k := range []struct{ reserve, n, units, cost int }{
		{1, 1, 1, 1}, {1, 2, 3, 6}, {5, 2, 1, 10}, {1000, 1, 1, 1000}, {1000, 4, 250, 1000000}, {16, 64, 1000, 1024000},
	} {
		for _, value := range []int{k.cost - 1, k.cost, k.cost + 1} {
			if value < 1 {
				continue
			}
			y := open(t, api.Config{Ticks: 64, Capacity: 1000, Reserve: k.reserve, Tenants: 1, Quota: 1})
			wantSubmit(t, y, 0, 1, job(0, 64, k.n, k.units, value), api.OK)
			if value >= k.cost {
				wantTick(t, y, name(0, 1))
				continue
			}
			for time := range 65 - k.n {
				wantLook(t, y, 0, 1, pending(), api.OK)
				wantTick(t, y)
				wantNow(t, y, time+1)
			}
			wantLook(t, y, 0, 1, expired(), api.OK)
		}
	}
}

func TestTickWithoutReserve(t *testing.T) {
	y := open(t, api.Config{Ticks: 64, Capacity: 1000, Reserve: 0, Tenants: 1, Quota: 1})
	wantSubmit(t, y, 0, 1, job(0, 64, 64, 1000, 1), api.OK)
	wantTick(t, y, name(0, 1))
}

// A reserve cost above every Value: the job never starts.
func TestTickReserveAboveEveryValue(t *testing.T) {
	y := open(t, api.Config{Ticks: 64, Capacity: 1000, Reserve: 1000, Tenants: 1, Quota: 1})
	wantSubmit(t, y, 0, 1, job(0, 64, 64, 1000, 1<<20), api.OK)
	wantTick(t, y)
	wantLook(t, y, 0, 1, expired(), api.OK)
}

// A bid that is worth less than its reserve cost takes nothing from those behind it.
func TestTickBelowReserveTakesNothing(t *testing.T) {
	y := open(t, api.Config{Ticks: 6, Capacity: 4, Reserve: 3, Tenants: 2, Quota: 2})
	wantSubmit(t, y, 0, 1, job(0, 6, 1, 4, 11), api.OK)
	wantSubmit(t, y, 1, 1, job(0, 6, 1, 4, 12), api.OK)
	wantTick(t, y, name(1, 1))
	wantTick(t, y)
	wantLook(t, y, 0, 1, pending(), api.OK)
	wantCancel(t, y, 0, 1, api.OK)
	wantLook(t, y, 0, 1, cancelled(), api.OK)
}

func TestTickArrival(t *testing.T) {
	for arrive := range 6 {
		y := open(t, ordinary())
		wantSubmit(t, y, 0, 1, job(arrive, 6, 1, 1, 9), api.OK)
		for range arrive {
			wantTick(t, y)
			wantLook(t, y, 0, 1, pending(), api.OK)
		}
		wantTick(t, y, name(0, 1))
		wantLook(t, y, 0, 1, won(arrive), api.OK)
	}
}

func TestTickExpires(t *testing.T) {
	for n := 1; n <= 6; n++ {
		for deadline := n; deadline <= 6; deadline++ {
			y := open(t, ordinary())
			wantCapacity(t, y, 0, 6, 0, api.OK)
			wantSubmit(t, y, 0, 1, job(0, deadline, n, 1, 99), api.OK)
			for time := range 6 {
				want := pending()
				if time+n > deadline {
					want = expired()
				}
				wantLook(t, y, 0, 1, want, api.OK)
				wantTick(t, y)
			}
			wantLook(t, y, 0, 1, expired(), api.OK)
		}
	}
}

// At the last tick at which it can start, a bid still starts.
func TestTickAtTheLastMoment(t *testing.T) {
	for deadline := 2; deadline <= 6; deadline++ {
		y := open(t, ordinary())
		if deadline > 2 {
			wantCapacity(t, y, 0, deadline-2, 0, api.OK)
		}
		wantSubmit(t, y, 0, 1, job(0, deadline, 2, 1, 9), api.OK)
		for range deadline - 2 {
			wantTick(t, y)
		}
		wantTick(t, y, name(0, 1))
		wantLook(t, y, 0, 1, won(deadline-2), api.OK)
		for range 6 - deadline + 1 {
			wantTick(t, y)
		}
		wantLook(t, y, 0, 1, won(deadline-2), api.OK)
	}
}

// The bids of a suspended tenant do not start, but they expire; they may be cancelled.
func TestTickSuspended(t *testing.T) {
	c := ordinary()
	c.Quota = 4
	y := open(t, c)
	wantSubmit(t, y, 0, 1, job(0, 1, 1, 1, 99), api.OK)
	wantSubmit(t, y, 0, 2, job(0, 3, 1, 1, 99), api.OK)
	wantSubmit(t, y, 0, 3, job(0, 6, 1, 1, 99), api.OK)
	wantSubmit(t, y, 1, 1, job(0, 6, 1, 4, 4), api.OK)
	wantSuspend(t, y, 0, true, api.OK)
	wantTick(t, y, name(1, 1))
	wantLook(t, y, 0, 1, expired(), api.OK)
	wantLook(t, y, 0, 2, pending(), api.OK)
	wantCancel(t, y, 0, 3, api.OK)
	wantTick(t, y)
	wantSuspend(t, y, 0, false, api.OK)
	wantTick(t, y, name(0, 2))
	wantSuspend(t, y, 0, true, api.OK)
	wantTick(t, y)
	wantLook(t, y, 0, 2, won(2), api.OK)
	wantFree(t, y, 0, 4, 3, 4, 4, 4)
}

func TestTickLeavesTheCancelledAlone(t *testing.T) {
	y := open(t, ordinary())
	wantSubmit(t, y, 0, 1, job(0, 1, 1, 4, 99), api.OK)
	wantSubmit(t, y, 1, 1, job(0, 1, 1, 4, 9), api.OK)
	wantCancel(t, y, 0, 1, api.OK)
	wantTick(t, y, name(1, 1))
	wantLook(t, y, 0, 1, cancelled(), api.OK)
	wantTick(t, y)
	wantLook(t, y, 0, 1, cancelled(), api.OK)
}

// As many bids as can be pending at once, all at one tick.
func TestTickManyBids(t *testing.T) {
	y := open(t, api.Config{Ticks: 64, Capacity: 100, Reserve: 0, Tenants: 8, Quota: 16})
	var want []api.Name
	for i := range 128 {
		value := 1 + (i*37)%128
		wantSubmit(t, y, i%8, 1+i, job(0, 64, 1, 1, value), api.OK)
	}
	for value := 128; value >= 1; value-- {
		for i := range 128 {
			if 1+(i*37)%128 == value {
				want = append(want, name(i%8, 1+i))
			}
		}
	}
	wantTick(t, y, want[:100]...)
	wantTick(t, y, want[100:]...)
	wantTick(t, y)
}

// The caller writes into a list and into its spare room; nothing that comes out later hangs on that.
func TestTickGivesFreshLists(t *testing.T) {
	c := ordinary()
	c.Quota = 16
	y := open(t, c)
	for ref := 1; ref <= 3; ref++ {
		wantSubmit(t, y, 0, ref, job(0, 6, 1, 1, 9), api.OK)
	}
	first, _ := y.Tick()
	for ref := 4; ref <= 7; ref++ {
		wantSubmit(t, y, 0, ref, job(0, 6, 1, 1, 9), api.OK)
	}
	kept := slices.Clone(first)
	all := first[:cap(first)]
	for i := range all {
		all[i] = name(7, 7)
	}
	wantTick(t, y, name(0, 4), name(0, 5), name(0, 6), name(0, 7))
	for i, n := range kept {
		if n != name(0, i+1) {
			t.Errorf("P12: the first list was %v", kept)
		}
		wantLook(t, y, n.Tenant, n.Ref, won(0), api.OK)
	}
	for i := range all {
		if all[i] != name(7, 7) {
			t.Errorf("P2: the second Tick wrote into the first list: %v", all)
		}
	}
	wantLook(t, y, 7, 7, api.Bid{}, api.ErrTenant)
}
