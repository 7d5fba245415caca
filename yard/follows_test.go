package yard_test

import (
	"math/rand"
	"testing"

	"yard/api"
	"yard/yard"
)

// What follows from the promises (P16, P17), looked for in what the market itself answers to random calls. Of the model just what was handed in is used: jobs, arrivals, who is suspended, how many units there are.

// wantRoom: the jobs that run at each tick use what is not free there, and no more than there is (P16).
func wantRoom(t *testing.T, y *yard.Yard, m *model) {
	t.Helper()
	for tick := range m.c.Ticks {
		used := 0
		for _, b := range m.bids {
			fate, _ := y.Look(b.name.Tenant, b.name.Ref)
			if fate.State == api.Won && fate.Start <= tick && tick < fate.Start+b.job.Len {
				used += b.job.Units
			}
		}
		free, e := y.Free(tick)
		if e != api.OK || free < 0 || free != m.units[tick]-used {
			t.Errorf("P16: at the tick %d there are %d units, %d in use, and Free = %d, %d", tick, m.units[tick], used, free, e)
		}
	}
}

// wantStays: a bid that was Won before is so now, with its start, which lies where it must (P16). What is Won now is noted.
func wantStays(t *testing.T, y *yard.Yard, m *model, before map[api.Name]api.Bid) {
	t.Helper()
	for _, b := range m.bids {
		fate, _ := y.Look(b.name.Tenant, b.name.Ref)
		if was, ok := before[b.name]; ok && was != fate {
			t.Errorf("P16: the bid %v was %+v and is %+v", b.name, was, fate)
		}
		if fate.State != api.Won {
			continue
		}
		before[b.name] = fate
		if fate.Start < b.arrival || fate.Start > b.job.Deadline-b.job.Len {
			t.Errorf("P16: the bid %v of %+v, which arrived at %d, started at %d", b.name, b.job, b.arrival, fate.Start)
		}
	}
}

// wantNoneLeft: behind a Tick no bid is pending that could have started and for which there is still room (P17).
func wantNoneLeft(t *testing.T, y *yard.Yard, m *model) {
	t.Helper()
	tick := y.Now() - 1
	for _, b := range m.bids {
		fate, _ := y.Look(b.name.Tenant, b.name.Ref)
		if fate.State != api.Pending || m.suspended[b.name.Tenant] || b.arrival > tick || tick+b.job.Len > b.job.Deadline || !m.paysReserve(b) {
			continue
		}
		room := true
		for i := tick; i < tick+b.job.Len; i++ {
			free, _ := y.Free(i)
			room = room && free >= b.job.Units
		}
		if room {
			t.Errorf("P17: behind the tick %d the bid %v of %+v is pending, and its units are free", tick, b.name, b.job)
		}
	}
}

func TestWhatFollowsFromTicks(t *testing.T) {
	r := rand.New(rand.NewSource(2))
	for range 150 {
		c := randomConfig(r)
		y, m := open(t, c), newModel(c)
		before := map[api.Name]api.Bid{}
		for range 300 {
			ticked := step(t, r, y, m)
			wantRoom(t, y, m)
			wantStays(t, y, m, before)
			if ticked {
				wantNoneLeft(t, y, m)
			}
			if t.Failed() {
				t.Fatalf("configuration %+v, entry %d", c, m.entries)
			}
		}
	}
}
