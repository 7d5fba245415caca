// Package yard: a market for units of time on machines: see DOC.md.
package yard

import "yard/api"

// Check tells whether a configuration is right (P3).
func Check(c api.Config) api.Errno {
	right := within(c.Ticks, 1, api.MaxTicks) &&
		within(c.Capacity, 0, api.MaxCapacity) &&
		within(c.Reserve, 0, api.MaxReserve) &&
		within(c.Tenants, 1, api.MaxTenants) &&
		within(c.Quota, 1, api.MaxQuota)
	if !right {
		return api.ErrConfig
	}
	return api.OK
}

// within tells whether a number is from least to greatest, both with it.
func within(n int, least int, greatest int) bool {
	return least <= n && n <= greatest
}

// Yard is a market, its log and its accounts.
type Yard struct {
	market   *market
	calls    []call        // the log
	submits  []int         // by bid: the entry of the log that submitted it
	invoices []api.Invoice // of all tenants, in the order in which they were charged
	paid     []int         // by tenant
}

// Open opens a market (P7).
func Open(c api.Config) (*Yard, api.Errno) {
	e := Check(c)
	if e != api.OK {
		return nil, e
	}
	return &Yard{market: newMarket(c), paid: make([]int, c.Tenants)}, api.OK
}

// log makes an entry; false, if the log is full.
func (y *Yard) log(c call) bool {
	if len(y.calls) >= api.MaxLog {
		return false
	}
	y.calls = append(y.calls, c)
	return true
}

// logAndAnswer makes a call that has no answer but an error.
func (y *Yard) logAndAnswer(c call) api.Errno {
	if !y.log(c) {
		return api.ErrFull
	}
	return y.market.answer(c)
}

// Submit makes a bid (P8).
func (y *Yard) Submit(tenant int, ref int, job api.Job) api.Errno {
	e := y.logAndAnswer(call{kind: submitCall, name: api.Name{Tenant: tenant, Ref: ref}, job: job})
	if e == api.OK {
		y.submits = append(y.submits, len(y.calls)-1)
	}
	return e
}

// Cancel takes a bid back (P9).
func (y *Yard) Cancel(tenant int, ref int) api.Errno {
	return y.logAndAnswer(call{kind: cancelCall, name: api.Name{Tenant: tenant, Ref: ref}})
}

// Capacity tells how many units there are (P10).
func (y *Yard) Capacity(from int, to int, units int) api.Errno {
	return y.logAndAnswer(call{kind: capacityCall, from: from, to: to, units: units})
}

// Suspend suspends a tenant, or does so no more (P9).
func (y *Yard) Suspend(tenant int, on bool) api.Errno {
	return y.logAndAnswer(call{kind: suspendCall, name: api.Name{Tenant: tenant}, on: on})
}

// Now tells the time (P11).
func (y *Yard) Now() int { return y.market.time }

// Left tells how many entries the log can still take (P7).
func (y *Yard) Left() int { return api.MaxLog - len(y.calls) }

// Look tells of a bid (P11).
func (y *Yard) Look(tenant int, ref int) (api.Bid, api.Errno) {
	return y.market.look(api.Name{Tenant: tenant, Ref: ref})
}

// Free tells how many units are free at a tick (P11).
func (y *Yard) Free(t int) (int, api.Errno) { return y.market.freeAt(t) }

// Tick lets a tick go by (P12).
func (y *Yard) Tick() ([]api.Name, api.Errno) {
	if !y.log(call{kind: tickCall}) {
		return nil, api.ErrFull
	}
	return y.market.tick()
}

// Price tells what a bid that has won must have been worth at least (P13).
func (y *Yard) Price(tenant int, ref int) (int, api.Errno) {
	i, e := y.market.find(api.Name{Tenant: tenant, Ref: ref})
	if e != api.OK {
		return 0, e
	}
	if y.market.bids[i].fate.State != api.Won {
		return 0, api.ErrState
	}
	return y.price(i), api.OK
}

// Bill charges what can be charged (P14).
func (y *Yard) Bill() ([]api.Invoice, api.Errno) {
	if !y.log(call{kind: billOrPay}) {
		return nil, api.ErrFull
	}
	var charged []api.Invoice
	for i := range y.market.bids {
		if y.isDue(i) {
			invoice := y.charge(i)
			charged = append(charged, invoice)
		}
	}
	return charged, api.OK
}

// Pay books a payment (P15).
func (y *Yard) Pay(tenant int, cents int) api.Errno {
	if !y.log(call{kind: billOrPay}) {
		return api.ErrFull
	}
	if !y.market.hasTenant(tenant) {
		return api.ErrTenant
	}
	if !within(cents, 1, api.MaxPay) {
		return api.ErrArg
	}
	y.paid[tenant] += cents
	return api.OK
}

// Balance tells a tenant's payments less its charges (P15).
func (y *Yard) Balance(tenant int) (int, api.Errno) {
	if !y.market.hasTenant(tenant) {
		return 0, api.ErrTenant
	}
	return y.balanceOf(tenant), api.OK
}

// Invoices tells what a tenant was charged (P15).
func (y *Yard) Invoices(tenant int) ([]api.Invoice, api.Errno) {
	if !y.market.hasTenant(tenant) {
		return nil, api.ErrTenant
	}
	return y.invoicesOf(tenant), api.OK
}
