package yard_test

import (
	"slices"
	"testing"

	"yard/api"
	"yard/yard"
)

func invoice(tenant, ref, cents int) api.Invoice {
	return api.Invoice{Tenant: tenant, Ref: ref, Cents: cents}
}

func wantBill(t *testing.T, y *yard.Yard, want ...api.Invoice) {
	t.Helper()
	if l, e := y.Bill(); e != api.OK || !slices.Equal(l, want) {
		t.Errorf("P14: Bill() at the time %d = %v, %d, want %v, 0", y.Now(), l, e, want)
	}
}

func wantPay(t *testing.T, y *yard.Yard, tenant, cents int, want api.Errno) {
	t.Helper()
	if e := y.Pay(tenant, cents); e != want {
		t.Errorf("P15: Pay(%d, %d) = %d, want %d", tenant, cents, e, want)
	}
}

func wantBalance(t *testing.T, y *yard.Yard, tenant, want int) {
	t.Helper()
	if n, e := y.Balance(tenant); n != want || e != api.OK {
		t.Errorf("P15: Balance(%d) = %d, %d, want %d, 0", tenant, n, e, want)
	}
}

func wantInvoices(t *testing.T, y *yard.Yard, tenant int, want ...api.Invoice) {
	t.Helper()
	if l, e := y.Invoices(tenant); e != api.OK || !slices.Equal(l, want) {
		t.Errorf("P15: Invoices(%d) = %v, %d, want %v, 0", tenant, l, e, want)
	}
}

func wantNoAccount(t *testing.T, y *yard.Yard, tenant int) {
	t.Helper()
	if n, e := y.Balance(tenant); n != 0 || e != api.ErrTenant {
		t.Errorf("P15: Balance(%d) = %d, %d, want 0, 3", tenant, n, e)
	}
	if l, e := y.Invoices(tenant); l != nil || e != api.ErrTenant {
		t.Errorf("P15: Invoices(%d) = %v, %d, want nil, 3", tenant, l, e)
	}
}

func TestBillOfAFreshMarket(t *testing.T) {
	y := open(t, ordinary())
	wantBill(t, y)
	wantLeft(t, y, 299)
	for tenant := range 3 {
		wantBalance(t, y, tenant, 0)
		wantInvoices(t, y, tenant)
	}
}

// A price is final, and is charged, from the first time on that is above Deadline less Len.
func TestBillWhenThePriceIsFinal(t *testing.T) {
	for n := 1; n <= 6; n++ {
		for deadline := n; deadline <= 6; deadline++ {
			y := open(t, ordinary())
			wantSubmit(t, y, 1, 7, job(0, deadline, n, 2, 99), api.OK)
			wantBill(t, y)
			for time := 1; time <= 6; time++ {
				y.Tick()
				if time == deadline-n+1 {
					wantBill(t, y, invoice(1, 7, 2*n))
				}
				wantBill(t, y)
			}
			wantInvoices(t, y, 1, invoice(1, 7, 2*n))
			wantBalance(t, y, 1, -2*n)
		}
	}
}

// The time of the start has nothing to do with it.
func TestBillOfABidThatStartedLate(t *testing.T) {
	y := open(t, ordinary())
	wantCapacity(t, y, 0, 3, 0, api.OK)
	wantSubmit(t, y, 0, 1, job(0, 5, 1, 1, 9), api.OK)
	for range 3 {
		wantTick(t, y)
		wantBill(t, y)
	}
	wantTick(t, y, name(0, 1))
	wantBill(t, y)
	wantTick(t, y)
	wantBill(t, y, invoice(0, 1, 1))
}

// The older bids are charged first, in whatever order they started and of whomever they are.
func TestBillOrder(t *testing.T) {
	y := open(t, api.Config{Ticks: 2, Capacity: 10, Reserve: 2, Tenants: 3, Quota: 3})
	wantSubmit(t, y, 2, 5, job(1, 2, 1, 1, 10), api.OK)
	wantSubmit(t, y, 0, 9, job(0, 1, 1, 2, 20), api.OK)
	wantSubmit(t, y, 1, 1, job(0, 2, 2, 3, 90), api.OK)
	wantSubmit(t, y, 0, 2, job(0, 2, 1, 4, 80), api.OK)
	wantTick(t, y, name(0, 2), name(1, 1), name(0, 9))
	wantTick(t, y, name(2, 5))
	wantBill(t, y, invoice(2, 5, 2), invoice(0, 9, 4), invoice(1, 1, 12), invoice(0, 2, 8))
	wantInvoices(t, y, 0, invoice(0, 9, 4), invoice(0, 2, 8))
	wantInvoices(t, y, 1, invoice(1, 1, 12))
	wantInvoices(t, y, 2, invoice(2, 5, 2))
	wantBalance(t, y, 0, -12)
	wantBalance(t, y, 1, -12)
	wantBalance(t, y, 2, -2)
}

// Invoices come in the order in which they were charged, which need not be by age.
func TestInvoicesOfSeveralBills(t *testing.T) {
	c := ordinary()
	c.Quota = 3
	y := open(t, c)
	wantSubmit(t, y, 0, 1, job(0, 6, 1, 1, 9), api.OK)
	wantSubmit(t, y, 0, 2, job(0, 2, 1, 1, 9), api.OK)
	wantSubmit(t, y, 0, 3, job(0, 1, 1, 2, 9), api.OK)
	wantTick(t, y, name(0, 1), name(0, 2), name(0, 3))
	wantBill(t, y, invoice(0, 3, 2))
	wantTick(t, y)
	wantBill(t, y, invoice(0, 2, 1))
	for range 4 {
		wantTick(t, y)
	}
	wantInvoices(t, y, 0, invoice(0, 3, 2), invoice(0, 2, 1))
	wantBill(t, y, invoice(0, 1, 1))
	wantInvoices(t, y, 0, invoice(0, 3, 2), invoice(0, 2, 1), invoice(0, 1, 1))
	wantBalance(t, y, 0, -4)
	wantBill(t, y)
}

// Charged is the price as it is when it is final, not as it was at the start.
func TestBillChargesTheFinalPrice(t *testing.T) {
	y := contest(t, 9)
	for range 4 {
		y.Tick()
		wantBill(t, y)
	}
	wantPrice(t, y, 0, 1, 1)
	y.Tick()
	wantBill(t, y, invoice(0, 1, 1), invoice(1, 1, 1))
	y = contest(t, 9)
	wantCancel(t, y, 0, 1, api.ErrState)
	for range 5 {
		y.Tick()
	}
	wantBill(t, y, invoice(0, 1, 9), invoice(1, 1, 1))
}

// Two bids of one tenant under two references, and of two tenants under one, are charged each for itself.
func TestBillTellsBidsApart(t *testing.T) {
	c := ordinary()
	c.Capacity = 100
	y := open(t, c)
	for i, ref := range []int{1, 2} {
		for tenant := range 3 {
			wantSubmit(t, y, tenant, ref, job(0, 1+i, 1, 1+tenant, 50), api.OK)
		}
	}
	y.Tick()
	wantBill(t, y, invoice(0, 1, 1), invoice(1, 1, 2), invoice(2, 1, 3))
	y.Tick()
	wantBill(t, y, invoice(0, 2, 1), invoice(1, 2, 2), invoice(2, 2, 3))
	wantBill(t, y)
	wantBalance(t, y, 0, -2)
	wantBalance(t, y, 1, -4)
	wantBalance(t, y, 2, -6)
}

// Bids that are not Won are charged nothing.
func TestBillOfBidsThatDidNotWin(t *testing.T) {
	y := open(t, ordinary())
	wantSubmit(t, y, 0, 1, job(0, 1, 1, 5, 99), api.OK)
	wantSubmit(t, y, 0, 2, job(0, 6, 1, 5, 99), api.OK)
	wantSubmit(t, y, 1, 1, job(0, 1, 1, 1, 99), api.OK)
	wantCancel(t, y, 1, 1, api.OK)
	for range 6 {
		wantTick(t, y)
		wantBill(t, y)
	}
	for tenant := range 3 {
		wantBalance(t, y, tenant, 0)
		wantInvoices(t, y, tenant)
	}
}

// Neither a Suspend nor a Cancel, which is refused, spares a bid that has won its charge.
func TestBillOfASuspendedTenant(t *testing.T) {
	y := open(t, ordinary())
	wantSubmit(t, y, 0, 1, job(0, 1, 1, 1, 99), api.OK)
	wantTick(t, y, name(0, 1))
	wantSuspend(t, y, 0, true, api.OK)
	wantCancel(t, y, 0, 1, api.ErrState)
	wantBill(t, y, invoice(0, 1, 1))
	wantPay(t, y, 0, 5, api.OK)
	wantBalance(t, y, 0, 4)
	wantInvoices(t, y, 0, invoice(0, 1, 1))
}

func wantNoBill(t *testing.T, y *yard.Yard) {
	t.Helper()
	if l, e := y.Bill(); l != nil || e != api.ErrFull {
		t.Errorf("P7: Bill() = %v, %d, want nil, 2", l, e)
	}
}

// Of a full log nothing is charged and nothing booked; the 300th entry still is.
func TestBillAndPayOfAFullLog(t *testing.T) {
	for _, room := range []bool{false, true} {
		y := open(t, ordinary())
		wantSubmit(t, y, 0, 1, job(0, 1, 1, 1, 99), api.OK)
		wantTick(t, y, name(0, 1))
		for range 297 {
			wantPay(t, y, 0, 1, api.OK)
		}
		if room {
			wantBill(t, y, invoice(0, 1, 1))
			wantInvoices(t, y, 0, invoice(0, 1, 1))
			wantBalance(t, y, 0, 296)
		} else {
			wantPay(t, y, 0, 1, api.OK)
			wantNoBill(t, y)
			wantInvoices(t, y, 0)
			wantBalance(t, y, 0, 298)
		}
		left, _ := y.Balance(0)
		wantNoBill(t, y)
		wantPay(t, y, 0, 1, api.ErrFull)
		wantPay(t, y, 3, 0, api.ErrFull)
		wantBalance(t, y, 0, left)
		wantNoAccount(t, y, 3)
	}
}

func TestPayBounds(t *testing.T) {
	y := open(t, ordinary())
	sum := 0
	for _, cents := range append(wild(), 0, 1, 2, 1<<30-1, 1<<30, 1<<30+1) {
		want := api.ErrArg
		if 1 <= cents && cents <= 1<<30 {
			want = api.OK
			sum += cents
		}
		left := y.Left()
		wantPay(t, y, 1, cents, want)
		wantLeft(t, y, left-1)
		wantBalance(t, y, 0, 0)
		wantBalance(t, y, 1, sum)
		wantBalance(t, y, 2, 0)
		wantInvoices(t, y, 1)
	}
}

func TestAccountsOfTenantsThatAreNone(t *testing.T) {
	for _, tenants := range []int{1, 3, 8} {
		c := ordinary()
		c.Tenants = tenants
		y := open(t, c)
		for _, tenant := range append(wild(), tenants) {
			wantPay(t, y, tenant, 1, api.ErrTenant)
			wantPay(t, y, tenant, 0, api.ErrTenant)
			wantPay(t, y, tenant, 1<<30+1, api.ErrTenant)
			wantNoAccount(t, y, tenant)
		}
		for tenant := range tenants {
			wantPay(t, y, tenant, 1+tenant, api.OK)
		}
		for tenant := range tenants {
			wantBalance(t, y, tenant, 1+tenant)
			wantInvoices(t, y, tenant)
		}
	}
}

// As much as can be paid at all.
func TestPayGreatSums(t *testing.T) {
	y := open(t, ordinary())
	for range 300 {
		wantPay(t, y, 2, 1<<30, api.OK)
	}
	wantBalance(t, y, 2, 300<<30)
}

func TestBalanceGoesUpAndDown(t *testing.T) {
	y := open(t, ordinary())
	wantSubmit(t, y, 0, 1, job(0, 1, 1, 4, 99), api.OK)
	wantSubmit(t, y, 0, 2, job(1, 2, 1, 3, 99), api.OK)
	wantPay(t, y, 0, 5, api.OK)
	wantBalance(t, y, 0, 5)
	wantTick(t, y, name(0, 1))
	wantBalance(t, y, 0, 5)
	wantBill(t, y, invoice(0, 1, 4))
	wantBalance(t, y, 0, 1)
	wantTick(t, y, name(0, 2))
	wantBill(t, y, invoice(0, 2, 3))
	wantBalance(t, y, 0, -2)
	wantPay(t, y, 0, 2, api.OK)
	wantBalance(t, y, 0, 0)
	wantPay(t, y, 0, 1, api.OK)
	wantBalance(t, y, 0, 1)
}

// scribble writes into a list and into its spare room.
func scribble(l []api.Invoice) {
	l = l[:cap(l)]
	for i := range l {
		l[i] = invoice(2, 99, 99)
	}
}

// The caller writes into the lists of Bill and Invoices; nothing that comes out later hangs on that.
func TestBillAndInvoicesGiveFreshLists(t *testing.T) {
	y := open(t, api.Config{Ticks: 6, Capacity: 100, Reserve: 1, Tenants: 3, Quota: 16})
	for ref := 1; ref <= 9; ref++ {
		wantSubmit(t, y, 0, ref, job(0, 1+ref/4, 1, ref, 500), api.OK)
	}
	y.Tick()
	first, _ := y.Bill()
	if !slices.Equal(first, []api.Invoice{invoice(0, 1, 1), invoice(0, 2, 2), invoice(0, 3, 3)}) {
		t.Errorf("P14: the first bill = %v", first)
	}
	scribble(first)
	one, _ := y.Invoices(0)
	two, _ := y.Invoices(0)
	scribble(one)
	if !slices.Equal(two, []api.Invoice{invoice(0, 1, 1), invoice(0, 2, 2), invoice(0, 3, 3)}) {
		t.Errorf("P2: the list %v was written into by way of another", two)
	}
	scribble(two)
	y.Tick()
	wantBill(t, y, invoice(0, 4, 4), invoice(0, 5, 5), invoice(0, 6, 6), invoice(0, 7, 7))
	y.Tick()
	wantBill(t, y, invoice(0, 8, 8), invoice(0, 9, 9))
	wantBill(t, y)
	wantBalance(t, y, 0, -45)
	wantBalance(t, y, 2, 0)
	for _, l := range [][]api.Invoice{first[:cap(first)], one[:cap(one)], two[:cap(two)]} {
		for _, v := range l {
			if v != invoice(2, 99, 99) {
				t.Errorf("P2: a later call wrote into a list that had come out: %v", l)
			}
		}
	}
	l, _ := y.Invoices(0)
	if len(l) != 9 {
		t.Errorf("P15: Invoices(0) = %v", l)
	}
}

func TestAccountsOfMarketsAreApart(t *testing.T) {
	y, z := open(t, ordinary()), open(t, ordinary())
	wantSubmit(t, y, 0, 1, job(0, 1, 1, 1, 9), api.OK)
	wantTick(t, y, name(0, 1))
	wantBill(t, y, invoice(0, 1, 1))
	wantPay(t, y, 0, 5, api.OK)
	wantLeft(t, z, 300)
	wantBill(t, z)
	wantBalance(t, z, 0, 0)
	wantInvoices(t, z, 0)
	wantNoPrice(t, z, 0, 1, api.ErrRef)
	wantBalance(t, y, 0, 4)
}
