package yard

import "yard/api"

// tick lets a tick go by, and answers the bids that started, in the order in which they did.
func (m *market) tick() ([]api.Name, api.Errno) {
	if m.time >= m.config.Ticks {
		return nil, api.ErrOver
	}
	var started []api.Name
	order := m.candidates()
	for _, i := range order {
		if m.start(i) {
			started = append(started, m.bids[i].name)
		}
	}
	m.time++
	m.expire()
	return started, api.OK
}

// candidates tells the indices of the bids that are looked at now, those that are ahead first.
func (m *market) candidates() []int {
	var order []int
	for i := range m.bids {
		if !m.isCandidate(i) {
			continue
		}
		order = append(order, i)
		// The bids come by age, so this one is younger than all before it: it passes those alone that are worth less.
		for k := len(order) - 1; k > 0 && worthMore(m.bids[i].job, m.bids[order[k-1]].job); k-- {
			order[k] = order[k-1]
			order[k-1] = i
		}
	}
	return order
}

func (m *market) isCandidate(i int) bool {
	b := m.bids[i]
	// A bid that there is was submitted by now, so it has arrived if its job has.
	return b.fate.State == api.Pending && !m.suspended[b.name.Tenant] && b.job.Arrive <= m.time && m.inTime(b.job)
}

// start starts a candidate's job now; false, if it is worth too little or its units are not free.
func (m *market) start(i int) bool {
	job := m.bids[i].job
	if job.Value < m.config.Reserve*size(job) {
		return false
	}
	end := m.time + job.Len
	free, _ := m.free.Min(m.time, end)
	if free < job.Units {
		return false
	}
	m.free.Add(m.time, end, -job.Units)
	m.bids[i].fate = api.Bid{State: api.Won, Start: m.time}
	return true
}

// expire ends the bids that come too late now, those of suspended tenants with them.
func (m *market) expire() {
	for i := range m.bids {
		if m.bids[i].fate.State == api.Pending && !m.inTime(m.bids[i].job) {
			m.bids[i].fate.State = api.Expired
		}
	}
}

// inTime tells whether a job that started now would have ended by its deadline.
func (m *market) inTime(job api.Job) bool {
	return m.time+job.Len <= job.Deadline
}

// worthMore tells whether a job is worth more for its size than another. It multiplies, since a division would round.
func worthMore(a api.Job, b api.Job) bool {
	return a.Value*size(b) > b.Value*size(a)
}

func size(job api.Job) int {
	return job.Len * job.Units
}
