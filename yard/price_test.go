package yard_test

import (
	"testing"

	"yard/api"
	"yard/yard"
)

func wantPrice(t *testing.T, y *yard.Yard, tenant, ref, want int) {
	t.Helper()
	if n, e := y.Price(tenant, ref); n != want || e != api.OK {
		t.Errorf("P13: Price(%d, %d) at the time %d = %d, %d, want %d, 0", tenant, ref, y.Now(), n, e, want)
	}
}

func wantNoPrice(t *testing.T, y *yard.Yard, tenant, ref int, want api.Errno) {
	t.Helper()
	if n, e := y.Price(tenant, ref); n != 0 || e != want {
		t.Errorf("P13: Price(%d, %d) at the time %d = %d, %d, want 0, %d", tenant, ref, y.Now(), n, e, want)
	}
}

// The document's example, whole.
func TestExample(t *testing.T) {
	y := open(t, ordinary())
	wantSubmit(t, y, 0, 1, job(0, 4, 2, 3, 60), api.OK)
	wantSubmit(t, y, 1, 1, job(0, 6, 1, 2, 16), api.OK)
	wantSubmit(t, y, 2, 1, job(0, 2, 2, 1, 30), api.OK)
	wantSubmit(t, y, 2, 1, job(0, 6, 1, 1, 5), api.ErrRef)
	wantSubmit(t, y, 2, 2, job(3, 4, 2, 1, 9), api.ErrJob)
	wantTick(t, y, name(2, 1), name(0, 1))
	wantFree(t, y, 0, 0, 4, 4, 4, 4)
	wantLook(t, y, 1, 1, pending(), api.OK)
	wantPrice(t, y, 0, 1, 48)
	wantPrice(t, y, 2, 1, 2)
	wantCapacity(t, y, 1, 2, 3, api.ErrUsed)
	wantTick(t, y)
	wantTick(t, y, name(1, 1))
	wantPrice(t, y, 0, 1, 6)
	wantLeft(t, y, 291)
	wantFree(t, y, 0, 0, 2, 4, 4, 4)
	wantBill(t, y, invoice(0, 1, 6), invoice(2, 1, 2))
	wantBalance(t, y, 0, -6)
	wantPay(t, y, 0, 10, api.OK)
	wantBalance(t, y, 0, 4)
	wantBill(t, y)
	wantTick(t, y)
	wantTick(t, y)
	wantTick(t, y)
	wantNow(t, y, 6)
	wantNoTick(t, y, api.ErrOver)
	wantBill(t, y, invoice(1, 1, 2))
	wantInvoices(t, y, 1, invoice(1, 1, 2))
	wantLook(t, y, 0, 1, won(0), api.OK)
	wantLook(t, y, 1, 1, won(2), api.OK)
	wantLook(t, y, 2, 1, won(0), api.OK)
}

func TestPriceErrors(t *testing.T) {
	c := ordinary()
	c.Quota = 16
	y := open(t, c)
	wantSubmit(t, y, 0, 1, job(0, 1, 1, 4, 40), api.OK)
	wantSubmit(t, y, 0, 2, job(0, 6, 1, 5, 90), api.OK)
	wantSubmit(t, y, 0, 3, job(0, 1, 1, 4, 10), api.OK)
	wantSubmit(t, y, 0, 4, job(0, 1, 1, 4, 90), api.OK)
	wantCancel(t, y, 0, 4, api.OK)
	wantSubmit(t, y, 0, 5, job(0, 7, 1, 4, 90), api.ErrJob)
	for ref := 1; ref <= 4; ref++ {
		wantNoPrice(t, y, 0, ref, api.ErrState)
	}
	wantTick(t, y, name(0, 1))
	wantPrice(t, y, 0, 1, 10)
	wantNoPrice(t, y, 0, 2, api.ErrState)
	wantNoPrice(t, y, 0, 3, api.ErrState)
	wantNoPrice(t, y, 0, 4, api.ErrState)
	wantLook(t, y, 0, 2, pending(), api.OK)
	wantLook(t, y, 0, 3, expired(), api.OK)
	wantNoPrice(t, y, 0, 5, api.ErrRef)
	wantNoPrice(t, y, 1, 1, api.ErrRef)
	for _, n := range append(wild(), 0, 6) {
		wantNoPrice(t, y, 0, n, api.ErrRef)
	}
	for _, n := range append(wild(), 3) {
		wantNoPrice(t, y, n, 1, api.ErrTenant)
		wantNoPrice(t, y, n, n, api.ErrTenant)
	}
	wantLeft(t, y, 293)
}

// Two bids for the one tick that there is, with room for one of them: the price is the least with which the winner is ahead. A rival of the same worth is behind if it is younger.
func TestPriceAgainstOneRival(t *testing.T) {
	for _, k := range []struct {
		say                  string
		reserve              int
		units                int // of the winner
		rivalUnits           int
		rival                int // its Value
		whenOlder, whenYoung int // the winner's price
	}{
		{"the same size", 0, 4, 4, 9, 9, 10},
		{"the least value", 0, 4, 4, 1, 1, 2},
		{"a third more than a whole for each", 0, 2, 3, 10, 7, 7},
		{"three for each", 0, 2, 3, 9, 6, 7},
		{"a third less than three for each", 0, 2, 3, 8, 6, 6},
		{"less than one for each", 0, 2, 3, 1, 1, 1},
		{"a small winner, a large rival", 0, 1, 4, 40, 10, 11},
		{"a large winner, a small rival", 0, 4, 1, 10, 40, 41},
		{"both fit", 0, 2, 2, 90, 1, 1},
		{"the rival never fits", 0, 4, 5, 90, 1, 1},
		{"both fit, a reserve cost", 3, 2, 2, 90, 6, 6},
		{"the rival is worth less than its reserve cost", 3, 4, 4, 11, 12, 12},
		{"the rival is worth its reserve cost", 3, 4, 4, 12, 12, 13},
		{"a small rival below its reserve cost", 3, 4, 1, 2, 12, 12},
	} {
		for _, older := range []bool{true, false} {
			want := k.whenYoung
			if older {
				want = k.whenOlder
			}
			// It pays the same whatever it bid, down to the price itself.
			for _, value := range []int{want, want + 1, 500, 1 << 20} {
				y := open(t, api.Config{Ticks: 1, Capacity: 4, Reserve: k.reserve, Tenants: 2, Quota: 1})
				if older {
					wantSubmit(t, y, 0, 1, job(0, 1, 1, k.units, value), api.OK)
				}
				wantSubmit(t, y, 1, 1, job(0, 1, 1, k.rivalUnits, k.rival), api.OK)
				if !older {
					wantSubmit(t, y, 0, 1, job(0, 1, 1, k.units, value), api.OK)
				}
				y.Tick()
				if n, e := y.Price(0, 1); n != want || e != api.OK {
					t.Errorf("P13: %s, older %v, Value %d: Price = %d, %d, want %d, 0", k.say, older, value, n, e, want)
				}
			}
		}
	}
}

// Two units for five bids of one size: each of the two winners need just be ahead of the best that lost, not of the other.
func TestPriceOfSeveralWinners(t *testing.T) {
	y := open(t, api.Config{Ticks: 1, Capacity: 2, Reserve: 0, Tenants: 5, Quota: 1})
	for tenant, value := range []int{30, 8, 7, 50, 3} {
		wantSubmit(t, y, tenant, 1, job(0, 1, 1, 1, value), api.OK)
	}
	wantTick(t, y, name(3, 1), name(0, 1))
	wantPrice(t, y, 0, 1, 8)
	wantPrice(t, y, 3, 1, 9)
}

// A rival that would start if this bid did not, but would leave it room all the same.
func TestPriceOfRoomBesideTheRivals(t *testing.T) {
	y := open(t, api.Config{Ticks: 1, Capacity: 3, Reserve: 0, Tenants: 3, Quota: 1})
	wantSubmit(t, y, 0, 1, job(0, 1, 1, 2, 40), api.OK)
	wantSubmit(t, y, 1, 1, job(0, 1, 1, 1, 9), api.OK)
	wantSubmit(t, y, 2, 1, job(0, 1, 1, 1, 5), api.OK)
	wantTick(t, y, name(0, 1), name(1, 1))
	// Behind (1, 1) there is still room for two units; behind (2, 1) there is not.
	wantPrice(t, y, 0, 1, 10)
	wantPrice(t, y, 1, 1, 5)
}

func TestPriceOfGreatNumbers(t *testing.T) {
	c := api.Config{Ticks: 64, Capacity: 1000, Reserve: 16, Tenants: 2, Quota: 1}
	y := open(t, c)
	wantSubmit(t, y, 0, 1, job(0, 64, 64, 1000, 1<<20), api.OK)
	wantTick(t, y, name(0, 1))
	wantPrice(t, y, 0, 1, 1024000)
	y = open(t, c)
	wantSubmit(t, y, 0, 1, job(0, 64, 64, 1000, 1<<20), api.OK)
	wantSubmit(t, y, 1, 1, job(0, 64, 64, 1000, 1<<20), api.OK)
	wantTick(t, y, name(0, 1))
	wantPrice(t, y, 0, 1, 1<<20)
	y = open(t, c)
	wantSubmit(t, y, 1, 1, job(0, 64, 64, 1000, 1<<20-1), api.OK)
	wantSubmit(t, y, 0, 1, job(0, 64, 64, 1000, 1<<20), api.OK)
	wantTick(t, y, name(0, 1))
	wantPrice(t, y, 0, 1, 1<<20)
}

// contest is a market of one unit behind its first tick: the bid (0, 1) of value 20, which can start at each of the six ticks, has started at once, and the younger (1, 1) of value 9 waits. In a replay with less than 9 it is the other way round.
func contest(t *testing.T, quota int) *yard.Yard {
	t.Helper()
	y := open(t, api.Config{Ticks: 6, Capacity: 1, Reserve: 0, Tenants: 3, Quota: quota})
	wantSubmit(t, y, 0, 1, job(0, 6, 1, 1, 20), api.OK)
	wantSubmit(t, y, 1, 1, job(0, 6, 1, 1, 9), api.OK)
	wantTick(t, y, name(0, 1))
	wantPrice(t, y, 0, 1, 9)
	return y
}

// A bid that could have started later for less pays less, as soon as that tick has gone by.
func TestPriceFallsAsTicksGoBy(t *testing.T) {
	y := contest(t, 9)
	wantSubmit(t, y, 2, 1, job(1, 2, 1, 1, 15), api.OK)
	wantSubmit(t, y, 2, 2, job(2, 3, 1, 1, 7), api.OK)
	wantSubmit(t, y, 2, 3, job(3, 4, 1, 1, 8), api.OK)
	wantSubmit(t, y, 2, 4, job(4, 5, 1, 1, 3), api.OK)
	wantSubmit(t, y, 2, 5, job(5, 6, 1, 1, 6), api.OK)
	wantPrice(t, y, 0, 1, 9)
	wantTick(t, y, name(2, 1))
	wantPrice(t, y, 0, 1, 9)
	wantTick(t, y, name(1, 1))
	wantPrice(t, y, 1, 1, 7)
	wantPrice(t, y, 0, 1, 7)
	wantTick(t, y, name(2, 3))
	wantPrice(t, y, 1, 1, 7)
	wantPrice(t, y, 0, 1, 7)
	wantTick(t, y, name(2, 4))
	wantPrice(t, y, 1, 1, 3)
	wantPrice(t, y, 0, 1, 3)
	wantTick(t, y, name(2, 5))
	wantPrice(t, y, 0, 1, 3)
}

// When the time is above Deadline less Len the price is final, whatever comes.
func TestPriceIsFinal(t *testing.T) {
	y := open(t, api.Config{Ticks: 6, Capacity: 1, Reserve: 0, Tenants: 3, Quota: 2})
	wantSubmit(t, y, 0, 1, job(0, 2, 1, 1, 20), api.OK)
	wantSubmit(t, y, 1, 1, job(0, 6, 1, 1, 9), api.OK)
	wantSubmit(t, y, 2, 1, job(1, 2, 1, 1, 4), api.OK)
	wantTick(t, y, name(0, 1))
	wantPrice(t, y, 0, 1, 9)
	wantTick(t, y, name(1, 1))
	wantPrice(t, y, 0, 1, 4)
	wantCapacity(t, y, 2, 6, 9, api.OK)
	wantSuspend(t, y, 0, true, api.OK)
	wantSubmit(t, y, 2, 2, job(2, 6, 1, 1, 100), api.OK)
	for range 4 {
		wantPrice(t, y, 0, 1, 4)
		y.Tick()
	}
	wantPrice(t, y, 0, 1, 4)
}

// A bid that had to wait pays what it took at its own start, or less.
func TestPriceOfABidThatWaited(t *testing.T) {
	y := open(t, api.Config{Ticks: 6, Capacity: 1, Reserve: 0, Tenants: 4, Quota: 2})
	wantSubmit(t, y, 0, 1, job(0, 2, 1, 1, 20), api.OK)
	wantSubmit(t, y, 1, 1, job(0, 1, 1, 1, 30), api.OK)
	wantSubmit(t, y, 2, 1, job(1, 6, 1, 1, 12), api.OK)
	wantTick(t, y, name(1, 1))
	wantPrice(t, y, 1, 1, 21)
	wantNoPrice(t, y, 0, 1, api.ErrState)
	wantTick(t, y, name(0, 1))
	wantPrice(t, y, 0, 1, 12)
	wantPrice(t, y, 1, 1, 21)
}

// In the replay a bid waits that has won, and so can be cancelled.
func TestPriceWhenTheBidIsCancelledInTheReplay(t *testing.T) {
	y := contest(t, 9)
	wantCancel(t, y, 0, 1, api.ErrState)
	for range 5 {
		y.Tick()
		wantPrice(t, y, 0, 1, 9)
	}
}

// In the replay the rival has started at once, and is not cancelled.
func TestPriceWhenTheRivalIsCancelled(t *testing.T) {
	y := contest(t, 9)
	wantCancel(t, y, 1, 1, api.OK)
	wantPrice(t, y, 0, 1, 9)
	wantTick(t, y)
	wantPrice(t, y, 0, 1, 1)
}

// In the replay the rival is cancelled before the first tick, as it was.
func TestPriceWhenTheRivalWasCancelledBefore(t *testing.T) {
	y := open(t, ordinary())
	wantSubmit(t, y, 0, 1, job(0, 1, 1, 4, 20), api.OK)
	wantSubmit(t, y, 1, 1, job(0, 1, 1, 4, 9), api.OK)
	wantCancel(t, y, 1, 1, api.OK)
	wantTick(t, y, name(0, 1))
	wantPrice(t, y, 0, 1, 4)
}

// In the replay the tenant is suspended while its bid still waits.
func TestPriceWhenTheTenantIsSuspended(t *testing.T) {
	y := contest(t, 9)
	wantSuspend(t, y, 0, true, api.OK)
	wantTick(t, y, name(1, 1))
	wantPrice(t, y, 0, 1, 9)
	wantTick(t, y)
	wantPrice(t, y, 0, 1, 9)
	wantSuspend(t, y, 0, false, api.OK)
	wantPrice(t, y, 0, 1, 9)
	wantTick(t, y)
	wantPrice(t, y, 0, 1, 1)
}

func TestPriceWhenTheRivalIsSuspended(t *testing.T) {
	y := open(t, ordinary())
	wantSubmit(t, y, 0, 1, job(0, 1, 1, 4, 20), api.OK)
	wantSubmit(t, y, 1, 1, job(0, 1, 1, 4, 9), api.OK)
	wantSuspend(t, y, 1, true, api.OK)
	wantTick(t, y, name(0, 1))
	wantSuspend(t, y, 1, false, api.OK)
	wantPrice(t, y, 0, 1, 4)
}

// A Capacity that was answered OK is answered ErrUsed in the replay, where a long job runs then; so at the tick 3 there is still a unit.
func TestPriceWhenUnitsAreInUseInTheReplay(t *testing.T) {
	y := open(t, api.Config{Ticks: 4, Capacity: 1, Reserve: 0, Tenants: 2, Quota: 1})
	wantSubmit(t, y, 0, 1, job(0, 4, 1, 1, 20), api.OK)
	wantSubmit(t, y, 1, 1, job(0, 3, 3, 1, 27), api.OK)
	wantTick(t, y, name(0, 1))
	wantCapacity(t, y, 1, 4, 0, api.OK)
	wantFree(t, y, 0, 0, 0, 0)
	for range 3 {
		wantPrice(t, y, 0, 1, 9)
		wantTick(t, y)
	}
	wantPrice(t, y, 0, 1, 1)
}

// A Capacity that was answered ErrUsed is answered OK in the replay, and takes away a unit that the bid needs later.
func TestPriceWhenUnitsAreNotInUseInTheReplay(t *testing.T) {
	y := open(t, api.Config{Ticks: 4, Capacity: 2, Reserve: 0, Tenants: 2, Quota: 1})
	wantSubmit(t, y, 0, 1, job(0, 4, 2, 2, 40), api.OK)
	wantSubmit(t, y, 1, 1, job(0, 1, 1, 2, 10), api.OK)
	wantTick(t, y, name(0, 1))
	wantPrice(t, y, 0, 1, 20)
	wantCapacity(t, y, 1, 4, 1, api.ErrUsed)
	wantTick(t, y)
	wantPrice(t, y, 0, 1, 20)
	wantTick(t, y)
	wantTick(t, y)
	wantPrice(t, y, 0, 1, 20)
}

// The tenant's second bid was taken because the first had won; in the replay the first still waits, and the second is answered ErrQuota.
func TestPriceWhenTheQuotaIsFullInTheReplay(t *testing.T) {
	y := contest(t, 1)
	wantSubmit(t, y, 0, 2, job(1, 2, 1, 1, 50), api.OK)
	wantTick(t, y, name(0, 2))
	wantPrice(t, y, 0, 1, 1)
	wantPrice(t, y, 0, 2, 10)
}

// The rival's second bid was answered ErrQuota because its first still waited; in the replay the first has won, and the second is taken.
func TestPriceWhenTheQuotaIsNotFullInTheReplay(t *testing.T) {
	y := contest(t, 1)
	wantSubmit(t, y, 1, 2, job(1, 2, 1, 1, 5), api.ErrQuota)
	wantTick(t, y, name(1, 1))
	wantPrice(t, y, 0, 1, 5)
}

// Calls with the bid's own name that did not submit it are made as they were.
func TestPriceOfABidThatWasRefusedBefore(t *testing.T) {
	y := open(t, api.Config{Ticks: 6, Capacity: 1, Reserve: 0, Tenants: 2, Quota: 1})
	wantSubmit(t, y, 0, 1, job(0, 6, 1, 1, 0), api.ErrJob)
	wantSubmit(t, y, 0, 1, job(0, 6, 1, 1, 1<<20+1), api.ErrJob)
	wantSuspend(t, y, 0, true, api.OK)
	wantSubmit(t, y, 0, 1, job(0, 6, 1, 1, 99), api.ErrSuspended)
	wantSuspend(t, y, 0, false, api.OK)
	wantSubmit(t, y, 0, 2, job(5, 6, 1, 1, 99), api.OK)
	wantSubmit(t, y, 0, 1, job(0, 6, 1, 1, 99), api.ErrQuota)
	wantCancel(t, y, 0, 2, api.OK)
	wantSubmit(t, y, 1, 1, job(0, 1, 1, 1, 9), api.OK)
	wantSubmit(t, y, 0, 1, job(0, 1, 1, 1, 20), api.OK)
	wantSubmit(t, y, 0, 1, job(0, 6, 1, 1, 0), api.ErrRef)
	wantSubmit(t, y, 0, 1, job(0, 6, 1, 1, 99), api.ErrRef)
	wantTick(t, y, name(0, 1))
	wantTick(t, y)
	wantPrice(t, y, 0, 1, 10)
}

// Two tenants use one reference: it is the tenant's own bid that is priced.
func TestPriceOfOneReferenceOfTwoTenants(t *testing.T) {
	y := open(t, api.Config{Ticks: 1, Capacity: 2, Reserve: 0, Tenants: 3, Quota: 1})
	wantSubmit(t, y, 0, 1, job(0, 1, 1, 1, 5), api.OK)
	wantSubmit(t, y, 1, 1, job(0, 1, 1, 1, 20), api.OK)
	wantSubmit(t, y, 2, 1, job(0, 1, 1, 1, 30), api.OK)
	wantTick(t, y, name(2, 1), name(1, 1))
	wantPrice(t, y, 1, 1, 6)
	wantPrice(t, y, 2, 1, 6)
	wantNoPrice(t, y, 0, 1, api.ErrState)
}

// A price can be asked for when the log is full, and all of its entries count.
func TestPriceOfAFullLog(t *testing.T) {
	y := contest(t, 9)
	for range 296 {
		wantPay(t, y, 0, 1, api.OK)
	}
	wantPrice(t, y, 0, 1, 9)
	wantTick(t, y, name(1, 1))
	wantLeft(t, y, 0)
	wantPrice(t, y, 0, 1, 1)
	wantNoTick(t, y, api.ErrFull)
	if e := y.Cancel(0, 1); e != api.ErrFull {
		t.Errorf("P7: Cancel = %d, when the log is full", e)
	}
	wantPrice(t, y, 0, 1, 1)
}

// A call that was answered ErrFull is not in the log, and so not in the replay.
func TestPriceWithoutCallsThatWereNotLogged(t *testing.T) {
	y := contest(t, 9)
	for range 297 {
		wantBill(t, y)
	}
	wantNoTick(t, y, api.ErrFull)
	wantPrice(t, y, 0, 1, 9)
}

// To ask for a price changes nothing.
func TestPriceChangesNothing(t *testing.T) {
	y := contest(t, 9)
	for range 400 {
		wantPrice(t, y, 0, 1, 9)
		wantNoPrice(t, y, 1, 1, api.ErrState)
	}
	wantLeft(t, y, 297)
	wantNow(t, y, 1)
	wantFree(t, y, 0, 1, 1, 1, 1, 1)
	wantLook(t, y, 0, 1, won(0), api.OK)
	wantLook(t, y, 1, 1, pending(), api.OK)
	wantBalance(t, y, 0, 0)
	wantInvoices(t, y, 0)
	wantTick(t, y, name(1, 1))
}
