package yard_test

import (
	"math/rand"
	"slices"
	"testing"

	"yard/api"
	"yard/yard"
)

// What follows from the promises (P16 to P20), looked for in what the market itself answers to random calls. Of the model just what was handed in is used: jobs, arrivals, who is suspended, how many units there are.

// wantRoom: the jobs that run at each tick use what is not free there, and no more than there is (P16).
func wantRoom(t *testing.T, y *yard.Yard, m *model) {
	t.Helper()
	for tick := range m.c.Ticks {
		used := 0
		for _, b := range m.bids {
			fate, _ := y.Look(b.name.Tenant, b.name.Ref)
			if fate.State == api.Won && fate.Start <= tick && tick < fate.Start+b.job.Len {
				used += b.job.Units
			}
		}
		free, e := y.Free(tick)
		if e != api.OK || free < 0 || free != m.units[tick]-used {
			t.Errorf("P16: at the tick %d there are %d units, %d in use, and Free = %d, %d", tick, m.units[tick], used, free, e)
		}
	}
}

// wantStays: a bid that was Won before is so now, with its start, which lies where it must (P16). What is Won now is noted.
func wantStays(t *testing.T, y *yard.Yard, m *model, before map[api.Name]api.Bid) {
	t.Helper()
	for _, b := range m.bids {
		fate, _ := y.Look(b.name.Tenant, b.name.Ref)
		if was, ok := before[b.name]; ok && was != fate {
			t.Errorf("P16: the bid %v was %+v and is %+v", b.name, was, fate)
		}
		if fate.State != api.Won {
			continue
		}
		before[b.name] = fate
		if fate.Start < b.arrival || fate.Start > b.job.Deadline-b.job.Len {
			t.Errorf("P16: the bid %v of %+v, which arrived at %d, started at %d", b.name, b.job, b.arrival, fate.Start)
		}
	}
}

// wantNoneLeft: behind a Tick no bid is pending that could have started and for which there is still room (P17).
func wantNoneLeft(t *testing.T, y *yard.Yard, m *model) {
	t.Helper()
	tick := y.Now() - 1
	for _, b := range m.bids {
		fate, _ := y.Look(b.name.Tenant, b.name.Ref)
		if fate.State != api.Pending || m.suspended[b.name.Tenant] || b.arrival > tick || tick+b.job.Len > b.job.Deadline || !m.paysReserve(b) {
			continue
		}
		room := true
		for i := tick; i < tick+b.job.Len; i++ {
			free, _ := y.Free(i)
			room = room && free >= b.job.Units
		}
		if room {
			t.Errorf("P17: behind the tick %d the bid %v of %+v is pending, and its units are free", tick, b.name, b.job)
		}
	}
}

func TestWhatFollowsFromTicks(t *testing.T) {
	r := rand.New(rand.NewSource(2))
	for range 150 {
		c := randomConfig(r)
		y, m := open(t, c), newModel(c)
		before := map[api.Name]api.Bid{}
		for range 300 {
			ticked := both(t, randomCall(r, m), y, m)
			wantRoom(t, y, m)
			wantStays(t, y, m, before)
			if ticked {
				wantNoneLeft(t, y, m)
			}
			if t.Failed() {
				t.Fatalf("configuration %+v, entry %d", c, len(m.log))
			}
		}
	}
}

// play makes calls of a fresh market.
func play(t *testing.T, c api.Config, calls []call) *yard.Yard {
	t.Helper()
	y := open(t, c)
	for _, x := range calls {
		x.of(y)
	}
	return y
}

func hasWon(y *yard.Yard, n api.Name) bool {
	b, e := y.Look(n.Tenant, n.Ref)
	return e == api.OK && b.State == api.Won
}

// wantDivides: a bid wins with its price and every greater value, and with none below (P18).
func wantDivides(t *testing.T, y *yard.Yard, m *model, b *modelBid) {
	t.Helper()
	price, e := y.Price(b.name.Tenant, b.name.Ref)
	if e != api.OK || price < 1 || price < m.c.Reserve*b.job.Len*b.job.Units || price > b.job.Value {
		t.Errorf("P18: the price of %+v is %d, %d", b, price, e)
	}
	values := []int{1<<20 - 1, 1 << 20}
	for v := 1; v <= b.job.Value+3; v++ {
		values = append(values, v)
	}
	for _, v := range values {
		calls := slices.Clone(m.log)
		calls[b.entry].job.Value = v
		if won := hasWon(play(t, m.c, calls), b.name); won != (v >= price) {
			t.Errorf("P18: the price of %+v is %d; that it wins with %d is %v", b, price, v, won)
		}
	}
}

func TestPricesDivideWinningFromLosing(t *testing.T) {
	r := rand.New(rand.NewSource(4))
	tried := 0
	for range 500 {
		c := smallConfig(r)
		y, m := open(t, c), newModel(c)
		for range 60 {
			both(t, smallCall(r, m), y, m)
		}
		for _, b := range m.bids {
			if hasWon(y, b.name) {
				tried++
				wantDivides(t, y, m, b)
			}
		}
		if t.Failed() {
			t.Fatalf("configuration %+v, log %+v", c, m.log)
		}
	}
	if tried < 1000 {
		t.Errorf("just %d bids have won", tried)
	}
}

// gain is what the bid (0, 1) gains behind these calls, if its job is worth so much.
func gain(t *testing.T, c api.Config, calls []call, worth int) int {
	t.Helper()
	y := play(t, c, calls)
	if !hasWon(y, name(0, 1)) {
		return 0
	}
	price, e := y.Price(0, 1)
	if e != api.OK {
		t.Errorf("P13: Price(0, 1) = %d, %d", price, e)
	}
	return worth - price
}

// othersCalls draws calls in which the tenant 0 neither submits nor cancels.
func othersCalls(r *rand.Rand, c api.Config) []call {
	m := newModel(c)
	var calls []call
	for len(calls) < 50 {
		x := smallCall(r, m)
		if x.tenant == 0 && (x.kind == "Submit" || x.kind == "Cancel") || x.kind == "Bill" {
			continue
		}
		m.make(x)
		calls = append(calls, x)
	}
	return calls
}

// randomLie is a job with any Value, that is no smaller and has no more time than the true one.
func randomLie(r *rand.Rand, truth api.Job) api.Job {
	lie := truth
	lie.Value = 1 + r.Intn(25)
	if r.Intn(2) == 0 {
		lie.Len += r.Intn(2)
		lie.Units += r.Intn(2)
		lie.Arrive += r.Intn(3)
		lie.Deadline -= r.Intn(3)
	}
	return lie
}

func TestNobodyGainsByLying(t *testing.T) {
	r := rand.New(rand.NewSource(5))
	gained, wonByLying := 0, 0
	for range 6000 {
		c := smallConfig(r)
		c.Tenants = 2 + r.Intn(3)
		others := othersCalls(r, c)
		at := r.Intn(20)
		true0 := randomJob(r, c, 0)
		submit := call{kind: "Submit", tenant: 0, ref: 1, job: true0}
		if submit.of(play(t, c, others[:at])).e != api.OK {
			continue
		}
		best := gain(t, c, slices.Insert(slices.Clone(others), at, submit), true0.Value)
		if best < 0 {
			t.Fatalf("P18: the truth %+v gains %d", true0, best)
		}
		if best > 0 {
			gained++
		}
		for range 10 {
			lie, place := submit, at
			lie.job = randomLie(r, true0)
			if r.Intn(2) == 0 {
				place += r.Intn(len(others) - at + 1)
			}
			other := gain(t, c, slices.Insert(slices.Clone(others), place, lie), true0.Value)
			if other != 0 {
				wonByLying++
			}
			if other > best {
				t.Fatalf("P19: configuration %+v, calls %+v: the truth %+v at %d gains %d, the lie %+v at %d gains %d", c, others, true0, at, best, lie.job, place, other)
			}
		}
	}
	if gained < 900 || wonByLying < 4000 {
		t.Errorf("just %d truths gained, and %d lies won", gained, wonByLying)
	}
}

// wantPricesSettle: the price of a bid that is Won never rises, and does not change any more when it is final (P13). The prices are noted.
func wantPricesSettle(t *testing.T, y *yard.Yard, m *model, wasFinal map[api.Name]bool, before map[api.Name]int) {
	t.Helper()
	for _, b := range m.bids {
		if !hasWon(y, b.name) {
			continue
		}
		price, _ := y.Price(b.name.Tenant, b.name.Ref)
		was, ok := before[b.name]
		if ok && (price > was || wasFinal[b.name] && price != was) {
			t.Errorf("P13: the price of %+v was %d (final: %v) and is %d", b, was, wasFinal[b.name], price)
		}
		before[b.name] = price
		wasFinal[b.name] = y.Now() > b.job.Deadline-b.job.Len
	}
}

// wantCharges: what a Bill charges is Won, was not charged before, and is charged its price (P14, P20). It is noted.
func wantCharges(t *testing.T, y *yard.Yard, invoices []api.Invoice, charged map[api.Name]bool) {
	t.Helper()
	for _, v := range invoices {
		n := name(v.Tenant, v.Ref)
		price, e := y.Price(v.Tenant, v.Ref)
		if !hasWon(y, n) || charged[n] || e != api.OK || price != v.Cents {
			t.Errorf("P20: charged is %+v; it has won: %v; it was charged before: %v; its price is %d, %d", v, hasWon(y, n), charged[n], price, e)
		}
		charged[n] = true
	}
}

func TestEachWinnerIsChargedOnce(t *testing.T) {
	r := rand.New(rand.NewSource(6))
	for range 600 {
		c := smallConfig(r)
		y, m := open(t, c), newModel(c)
		charged, final, prices := map[api.Name]bool{}, map[api.Name]bool{}, map[api.Name]int{}
		calls := 60
		for y.Now() < c.Ticks || calls > 0 {
			calls--
			x := smallCall(r, m)
			if calls <= 0 {
				x = call{kind: "Tick"}
			}
			m.make(x)
			wantCharges(t, y, x.of(y).invoices, charged)
			wantPricesSettle(t, y, m, final, prices)
		}
		invoices, e := y.Bill()
		if e != api.OK {
			t.Errorf("P14: Bill() = %v, %d", invoices, e)
		}
		wantCharges(t, y, invoices, charged)
		for _, b := range m.bids {
			if hasWon(y, b.name) != charged[b.name] {
				t.Errorf("P20: behind a Bill at the time %d: the bid %v has won: %v; it was charged: %v", y.Now(), b.name, hasWon(y, b.name), charged[b.name])
			}
		}
		if t.Failed() {
			t.Fatalf("configuration %+v, log %+v", c, m.log)
		}
	}
}
