package yard

import (
	"testing"

	"yard/api"
)

// While no tick goes by, the time, units in use and bids that won or expired are reached from inside alone.

func conf() api.Config {
	return api.Config{Ticks: 6, Capacity: 4, Reserve: 1, Tenants: 3, Quota: 1}
}

func job(arrive, deadline, n int) api.Job {
	return api.Job{Arrive: arrive, Deadline: deadline, Len: n, Units: 1, Value: 1}
}

func wantFreeOf(t *testing.T, y *Yard, want ...int) {
	t.Helper()
	for i, w := range want {
		if n, e := y.Free(i); n != w || e != api.OK {
			t.Errorf("P11: Free(%d) = %d, %d, want %d", i, n, e, w)
		}
	}
}

func TestSubmitLate(t *testing.T) {
	for _, k := range []struct {
		time int
		job  api.Job
		want api.Errno
	}{
		{2, job(0, 4, 2), api.OK}, {2, job(1, 4, 2), api.OK}, {2, job(2, 4, 2), api.OK},
		{2, job(0, 3, 2), api.ErrJob}, {2, job(2, 3, 2), api.ErrJob}, {2, job(3, 4, 2), api.ErrJob},
		{3, job(0, 4, 2), api.ErrJob}, {3, job(4, 6, 2), api.OK}, {3, job(5, 6, 2), api.ErrJob},
		{5, job(0, 6, 1), api.OK}, {6, job(0, 6, 1), api.ErrJob}, {6, job(6, 6, 1), api.ErrJob},
		{6, job(-1, 6, 1), api.ErrJob},
	} {
		y, _ := Open(conf())
		y.market.time = k.time
		if e := y.Submit(0, 1, k.job); e != k.want {
			t.Errorf("P8: Submit(0, 1, %+v) at the time %d = %d, want %d", k.job, k.time, e, k.want)
		}
	}
}

func TestNowIsTheTime(t *testing.T) {
	y, _ := Open(conf())
	for time := range 7 {
		y.market.time = time
		if n := y.Now(); n != time {
			t.Errorf("P11: Now() = %d at the time %d", n, time)
		}
	}
}

func TestCapacityOfThePast(t *testing.T) {
	for time := range 7 {
		for from := range 7 {
			y, _ := Open(conf())
			y.market.time = time
			want := api.ErrArg
			if time <= from && from < 6 {
				want = api.OK
			}
			if e := y.Capacity(from, 6, 1); e != want {
				t.Errorf("P10: Capacity(%d, 6, 1) at the time %d = %d, want %d", from, time, e, want)
			}
		}
	}
}

func TestCapacityOfUnitsInUse(t *testing.T) {
	y, _ := Open(conf())
	y.market.free.Add(1, 3, -3)
	for _, k := range []struct {
		from, to, units int
		want            api.Errno
	}{
		{0, 6, 2, api.ErrUsed}, {1, 2, 2, api.ErrUsed}, {2, 3, 0, api.ErrUsed}, {0, 2, 2, api.ErrUsed}, {2, 6, 2, api.ErrUsed},
		{1, 7, 2, api.ErrArg}, {1, 1, 2, api.ErrArg}, {1, 2, -1, api.ErrArg},
	} {
		if e := y.Capacity(k.from, k.to, k.units); e != k.want {
			t.Errorf("P10: Capacity(%d, %d, %d) = %d, want %d", k.from, k.to, k.units, e, k.want)
		}
		wantFreeOf(t, y, 4, 1, 1, 4, 4, 4)
	}
	for _, k := range []struct {
		from, to, units int
		free            []int
	}{
		{0, 1, 0, []int{0, 1, 1, 4, 4, 4}}, {3, 6, 2, []int{0, 1, 1, 2, 2, 2}}, {1, 2, 3, []int{0, 0, 1, 2, 2, 2}},
		{0, 6, 3, []int{3, 0, 0, 3, 3, 3}}, {2, 4, 9, []int{3, 0, 6, 9, 3, 3}},
	} {
		if e := y.Capacity(k.from, k.to, k.units); e != api.OK {
			t.Errorf("P10: Capacity(%d, %d, %d) = %d, want 0", k.from, k.to, k.units, e)
		}
		wantFreeOf(t, y, k.free...)
	}
}

func TestBidsThatWonOrExpired(t *testing.T) {
	for _, fate := range []api.Bid{{State: api.Won, Start: 0}, {State: api.Won, Start: 3}, {State: api.Expired, Start: -1}} {
		y, _ := Open(conf())
		y.Submit(0, 1, job(0, 6, 1))
		y.market.bids[0].fate = fate
		if e := y.Cancel(0, 1); e != api.ErrState {
			t.Errorf("P9: Cancel of %+v = %d, want 8", fate, e)
		}
		if b, e := y.Look(0, 1); b != fate || e != api.OK {
			t.Errorf("P11: Look = %+v, %d, want %+v", b, e, fate)
		}
		if e := y.Submit(0, 1, job(0, 6, 1)); e != api.ErrRef {
			t.Errorf("P8: Submit under the reference of %+v = %d, want 5", fate, e)
		}
		if e := y.Submit(0, 2, job(0, 6, 1)); e != api.OK {
			t.Errorf("P8: Submit beside %+v, which is not pending, = %d, want 0", fate, e)
		}
		if e := y.Submit(0, 3, job(0, 6, 1)); e != api.ErrQuota {
			t.Errorf("P8: Submit beside a pending bid = %d, want 7", e)
		}
	}
}
