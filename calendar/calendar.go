// Package calendar: rows of cells of which pieces are raised, lowered and looked at: see DOC.md.
package calendar

import "yard/api"

// Calendar is a row of cells.
type Calendar struct {
	cells []int
}

// New makes a row (P4).
func New(n int, value int) (*Calendar, api.Errno) {
	if n < 1 || n > api.MaxCells || !canStand(value) {
		return nil, api.ErrArg
	}
	cells := make([]int, n)
	for i := range cells {
		cells[i] = value
	}
	return &Calendar{cells: cells}, api.OK
}

// Add adds to a piece of a row (P5).
func (c *Calendar) Add(from int, to int, delta int) api.Errno {
	if !c.hasPiece(from, to) || delta < -2*api.MaxCell || delta > 2*api.MaxCell {
		return api.ErrArg
	}
	// All cells are tested before the first is written, so that an error changes nothing.
	for i := from; i < to; i++ {
		if !canStand(c.cells[i] + delta) {
			return api.ErrRange
		}
	}
	for i := from; i < to; i++ {
		c.cells[i] += delta
	}
	return api.OK
}

// Min tells the least value of a piece of a row (P5).
func (c *Calendar) Min(from int, to int) (int, api.Errno) {
	if !c.hasPiece(from, to) {
		return 0, api.ErrArg
	}
	least := c.cells[from]
	for i := from + 1; i < to; i++ {
		if c.cells[i] < least {
			least = c.cells[i]
		}
	}
	return least, api.OK
}

// Fit looks for a piece that is nowhere below a value (P6).
func (c *Calendar) Fit(from int, n int, value int) (int, api.Errno) {
	// The difference, not the sum of from and n: the sum of two great numbers would wrap around.
	if from < 0 || n < 1 || n > len(c.cells)-from {
		return 0, api.ErrArg
	}
	run := 0
	for i := from; i < len(c.cells); i++ {
		if c.cells[i] < value {
			run = 0
			continue
		}
		run++
		if run == n {
			return i + 1 - n, api.OK
		}
	}
	return -1, api.OK
}

// hasPiece tells whether the row has cells from from up to to, and at least one of them.
func (c *Calendar) hasPiece(from int, to int) bool {
	return 0 <= from && from < to && to <= len(c.cells)
}

// canStand tells whether a value may stand in a cell.
func canStand(value int) bool {
	return -api.MaxCell <= value && value <= api.MaxCell
}
