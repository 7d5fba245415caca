package yard

import "yard/api"

// The kinds of calls that are logged. By Bill and Pay no bid wins or loses, so a replay need not know them apart.
const (
	billOrPay    = 0
	submitCall   = 1
	cancelCall   = 2
	capacityCall = 3
	suspendCall  = 4
	tickCall     = 5
)

// call is an entry of the log: what a replay needs of it.
type call struct {
	kind     int
	name     api.Name // of Suspend the tenant alone
	job      api.Job
	from, to int
	units    int
	on       bool
}

// answer does what a call asks, be it made for the first time or in a replay.
func (m *market) answer(c call) api.Errno {
	switch c.kind {
	case submitCall:
		return m.submit(c.name, c.job)
	case cancelCall:
		return m.cancel(c.name)
	case capacityCall:
		return m.setCapacity(c.from, c.to, c.units)
	case suspendCall:
		return m.suspend(c.name.Tenant, c.on)
	case tickCall:
		_, e := m.tick()
		return e
	}
	return api.OK
}

// price tells the price of the bid at an index, which is Won. It may halve what is left of the values, since a bid that wins with one wins with every greater one (P18); and it wins with its own.
func (y *Yard) price(i int) int {
	least := 1
	greatest := y.market.bids[i].job.Value
	for least < greatest {
		middle := (least + greatest) / 2
		if y.wins(i, middle) {
			greatest = middle
		} else {
			least = middle + 1
		}
	}
	return least
}

// wins tells whether the bid at an index wins in the replay of the log with a value.
func (y *Yard) wins(i int, value int) bool {
	replay := newMarket(y.market.config)
	for k := range y.calls {
		c := y.calls[k]
		if k == y.submits[i] {
			c.job.Value = value
		}
		replay.answer(c)
	}
	fate, _ := replay.look(y.market.bids[i].name)
	return fate.State == api.Won
}
