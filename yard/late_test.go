package yard_test

import (
	"testing"

	"yard/api"
	"yard/yard"
)

// What P7 to P11 promise, as ticks go by.

// at opens a market and lets ticks go by until the time is so late.
func at(t *testing.T, c api.Config, time int) *yard.Yard {
	t.Helper()
	y := open(t, c)
	for range time {
		wantTick(t, y)
	}
	return y
}

func TestSubmitLate(t *testing.T) {
	for _, k := range []struct {
		time, arrive, deadline, n int
		want                      api.Errno
	}{
		{2, 0, 4, 2, api.OK}, {2, 1, 4, 2, api.OK}, {2, 2, 4, 2, api.OK},
		{2, 0, 3, 2, api.ErrJob}, {2, 2, 3, 2, api.ErrJob}, {2, 3, 4, 2, api.ErrJob},
		{3, 0, 4, 2, api.ErrJob}, {3, 4, 6, 2, api.OK}, {3, 5, 6, 2, api.ErrJob},
		{5, 0, 6, 1, api.OK}, {6, 0, 6, 1, api.ErrJob}, {6, 6, 6, 1, api.ErrJob}, {6, -1, 6, 1, api.ErrJob},
	} {
		wantSubmit(t, at(t, ordinary(), k.time), 0, 1, job(k.arrive, k.deadline, k.n, 1, 9), k.want)
	}
}

func TestSubmitWildJobsLate(t *testing.T) {
	for _, time := range []int{1, 3, 6} {
		y := at(t, ordinary(), time)
		for _, n := range wild() {
			wantSubmit(t, y, 0, 1, job(n, 6, 1, 1, 9), api.ErrJob)
			wantSubmit(t, y, 0, 1, job(0, n, 1, 1, 9), api.ErrJob)
			wantSubmit(t, y, 0, 1, job(0, 6, n, 1, 9), api.ErrJob)
			wantSubmit(t, y, 0, 1, job(n, n, n, 1, 9), api.ErrJob)
		}
	}
}

func TestCapacityOfThePast(t *testing.T) {
	for time := range 7 {
		for from := range 7 {
			y := at(t, ordinary(), time)
			want, free := api.ErrArg, []int{4, 4, 4, 4, 4, 4}
			if time <= from && from < 6 {
				want = api.OK
				for i := from; i < 6; i++ {
					free[i] = 1
				}
			}
			wantCapacity(t, y, from, 6, 1, want)
			wantFree(t, y, free...)
		}
	}
}

func TestCapacityOfUnitsInUse(t *testing.T) {
	y := open(t, ordinary())
	wantSubmit(t, y, 0, 1, job(1, 3, 2, 3, 60), api.OK)
	wantTick(t, y)
	wantTick(t, y, name(0, 1))
	wantFree(t, y, 4, 1, 1, 4, 4, 4)
	for _, k := range []struct {
		from, to, units int
		want            api.Errno
	}{
		{2, 3, 2, api.ErrUsed}, {2, 3, 0, api.ErrUsed}, {2, 6, 2, api.ErrUsed}, {2, 4, 0, api.ErrUsed},
		{1, 3, 2, api.ErrArg}, {2, 7, 2, api.ErrArg}, {2, 2, 2, api.ErrArg}, {2, 3, -1, api.ErrArg},
	} {
		wantCapacity(t, y, k.from, k.to, k.units, k.want)
		wantFree(t, y, 4, 1, 1, 4, 4, 4)
	}
	for _, k := range []struct {
		from, to, units int
		free            []int
	}{
		{3, 6, 2, []int{4, 1, 1, 2, 2, 2}}, {2, 3, 3, []int{4, 1, 0, 2, 2, 2}}, {2, 6, 3, []int{4, 1, 0, 3, 3, 3}},
		{2, 4, 9, []int{4, 1, 6, 9, 3, 3}}, {5, 6, 0, []int{4, 1, 6, 9, 3, 0}}, {2, 6, 100000, []int{4, 1, 99997, 100000, 100000, 100000}},
	} {
		wantCapacity(t, y, k.from, k.to, k.units, api.OK)
		wantFree(t, y, k.free...)
	}
}

// One tick that is in use stands behind others that are not: the error changes none of them.
func TestCapacityErrUsedChangesNothing(t *testing.T) {
	y := open(t, ordinary())
	wantSubmit(t, y, 0, 1, job(0, 6, 6, 2, 60), api.OK)
	wantCapacity(t, y, 0, 3, 9, api.OK)
	wantTick(t, y, name(0, 1))
	wantFree(t, y, 7, 7, 7, 2, 2, 2)
	wantSubmit(t, y, 1, 1, job(0, 4, 3, 1, 60), api.OK)
	wantTick(t, y, name(1, 1))
	wantFree(t, y, 7, 6, 6, 1, 2, 2)
	wantCapacity(t, y, 3, 6, 2, api.ErrUsed)
	wantFree(t, y, 7, 6, 6, 1, 2, 2)
	wantCapacity(t, y, 4, 6, 2, api.OK)
	wantCapacity(t, y, 2, 6, 2, api.ErrUsed)
	wantFree(t, y, 7, 6, 6, 1, 0, 0)
	wantCapacity(t, y, 2, 6, 3, api.OK)
	wantFree(t, y, 7, 6, 0, 0, 1, 1)
}

// Bids that won or expired take no room of the quota, keep their reference, and can't be cancelled.
func TestBidsThatWonOrExpired(t *testing.T) {
	c := ordinary()
	c.Quota = 1
	for _, k := range []struct {
		units int
		want  api.Bid
	}{
		{4, won(0)}, {5, expired()},
	} {
		y := open(t, c)
		wantSubmit(t, y, 0, 1, job(0, 1, 1, k.units, 90), api.OK)
		wantSubmit(t, y, 0, 2, job(0, 6, 1, 1, 9), api.ErrQuota)
		y.Tick()
		wantLook(t, y, 0, 1, k.want, api.OK)
		wantCancel(t, y, 0, 1, api.ErrState)
		wantSubmit(t, y, 0, 1, job(0, 6, 1, 1, 9), api.ErrRef)
		wantSubmit(t, y, 0, 2, job(0, 6, 1, 1, 9), api.OK)
		wantSubmit(t, y, 0, 3, job(0, 6, 1, 1, 9), api.ErrQuota)
		wantLook(t, y, 0, 1, k.want, api.OK)
		wantTick(t, y, name(0, 2))
		wantLook(t, y, 0, 1, k.want, api.OK)
		wantLook(t, y, 0, 2, won(1), api.OK)
	}
}

func TestMarketsAreApartAsTicksGoBy(t *testing.T) {
	y, z := open(t, ordinary()), open(t, ordinary())
	wantSubmit(t, y, 0, 1, job(0, 6, 2, 3, 60), api.OK)
	wantSubmit(t, z, 0, 1, job(0, 6, 2, 3, 60), api.OK)
	wantTick(t, y, name(0, 1))
	wantNow(t, z, 0)
	wantLeft(t, z, 299)
	wantFree(t, z, 4, 4, 4, 4, 4, 4)
	wantLook(t, z, 0, 1, pending(), api.OK)
	wantTick(t, z, name(0, 1))
	wantTick(t, z)
	wantNow(t, y, 1)
	wantFree(t, y, 1, 1, 4, 4, 4, 4)
}
