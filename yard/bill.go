package yard

import "yard/api"

// isDue tells whether the bid at an index is to be charged now.
func (y *Yard) isDue(i int) bool {
	b := y.market.bids[i]
	// A price is final when the job could not start any more in a replay either.
	return b.fate.State == api.Won && !y.market.inTime(b.job) && !y.isCharged(b.name)
}

func (y *Yard) isCharged(name api.Name) bool {
	for _, v := range y.invoices {
		if v.Tenant == name.Tenant && v.Ref == name.Ref {
			return true
		}
	}
	return false
}

// charge charges the bid at an index its price.
func (y *Yard) charge(i int) api.Invoice {
	name := y.market.bids[i].name
	invoice := api.Invoice{Tenant: name.Tenant, Ref: name.Ref, Cents: y.price(i)}
	y.invoices = append(y.invoices, invoice)
	return invoice
}

// invoicesOf lists a tenant's invoices, in the order in which they were charged.
func (y *Yard) invoicesOf(tenant int) []api.Invoice {
	var list []api.Invoice
	for _, v := range y.invoices {
		if v.Tenant == tenant {
			list = append(list, v)
		}
	}
	return list
}

// balanceOf tells the balance of a tenant that there is.
func (y *Yard) balanceOf(tenant int) int {
	balance := y.paid[tenant]
	charged := y.invoicesOf(tenant)
	for _, v := range charged {
		balance -= v.Cents
	}
	return balance
}
