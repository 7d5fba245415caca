package calendar_test

import (
	"math"
	"math/big"
	"slices"
	"testing"

	"yard/api"
	"yard/calendar"
)

// The numbers are written out, so that a bound that moves in the program does not move here too.
const (
	maxCells = 4096
	maxCell  = 1 << 40
)

// wild are numbers at which a sum, a difference or a change of sign goes wrong, if any does.
var wild = []int{math.MinInt, math.MinInt + 1, -1 << 62, -1<<41 - 1, -1 << 41, -1<<40 - 1, -1 << 40, -2, -1, 0, 1, 2, 3, 4, 5, maxCells, maxCells + 1, 1 << 40, 1<<40 + 1, 1 << 41, 1<<41 + 1, 1 << 62, math.MaxInt - 1, math.MaxInt}

func newRow(t *testing.T, n int, value int) *calendar.Calendar {
	t.Helper()
	c, e := calendar.New(n, value)
	if e != api.OK || c == nil {
		t.Fatalf("P4: New(%d, %d) = %v, %d, want a row, OK", n, value, c, e)
	}
	return c
}

// rowOf makes a row in which these values stand.
func rowOf(t *testing.T, values []int) *calendar.Calendar {
	t.Helper()
	c := newRow(t, len(values), 0)
	for i, v := range values {
		if e := c.Add(i, i+1, v); e != api.OK {
			t.Fatalf("P5: Add(%d, %d, %d) to 0 = %d, want OK", i, i+1, v, e)
		}
	}
	return c
}

// wantCells tells where a row is not these values.
func wantCells(t *testing.T, why string, c *calendar.Calendar, want []int) {
	t.Helper()
	for i, w := range want {
		if v, e := c.Min(i, i+1); v != w || e != api.OK {
			t.Fatalf("%s: cell %d: %d, %d, want %d, OK", why, i, v, e, w)
		}
	}
	if v, e := c.Min(0, len(want)+1); v != 0 || e != api.ErrArg {
		t.Fatalf("%s: the row has more than %d cells: Min = %d, %d", why, len(want), v, e)
	}
}

// sumAbove tells whether a and b together are more than limit, whatever they are.
func sumAbove(a int, b int, limit int) bool {
	sum := new(big.Int).Add(big.NewInt(int64(a)), big.NewInt(int64(b)))
	return sum.Cmp(big.NewInt(int64(limit))) > 0
}

// sumBeyond tells whether a and b together are not from -limit to limit, whatever they are.
func sumBeyond(a int, b int, limit int) bool {
	sum := new(big.Int).Add(big.NewInt(int64(a)), big.NewInt(int64(b)))
	return sum.CmpAbs(big.NewInt(int64(limit))) > 0
}

// eachRow hands over all lists of up to n numbers from 0 to 2.
func eachRow(n int, use func(values []int)) {
	for k := 1; k <= n; k++ {
		count := 1
		for range k {
			count *= 3
		}
		for code := range count {
			values := make([]int, k)
			for i := range values {
				values[i] = code % 3
				code /= 3
			}
			use(values)
		}
	}
}

func TestDocumentExample(t *testing.T) {
	c := newRow(t, 4, 5)
	if e := c.Add(1, 3, -2); e != api.OK {
		t.Errorf("P5: Add(1, 3, -2) = %d, want OK", e)
	}
	mins := []struct {
		from, to, want int
		e              api.Errno
	}{{0, 4, 3, api.OK}, {3, 4, 5, api.OK}, {2, 2, 0, api.ErrArg}}
	for _, k := range mins {
		if v, e := c.Min(k.from, k.to); v != k.want || e != k.e {
			t.Errorf("P5: Min(%d, %d) = %d, %d, want %d, %d", k.from, k.to, v, e, k.want, k.e)
		}
	}
	fits := [][4]int{{0, 2, 4, -1}, {0, 1, 4, 0}, {1, 1, 4, 3}, {1, 2, 3, 1}}
	for _, k := range fits {
		if s, e := c.Fit(k[0], k[1], k[2]); s != k[3] || e != api.OK {
			t.Errorf("P6: Fit(%d, %d, %d) = %d, %d, want %d, OK", k[0], k[1], k[2], s, e, k[3])
		}
	}
	if e := c.Add(0, 4, 1<<40); e != api.ErrRange {
		t.Errorf("P5: Add(0, 4, 1 << 40) = %d, want ErrRange", e)
	}
	wantCells(t, "P1: behind ErrRange", c, []int{5, 3, 3, 5})
}

func TestNewGivesARowOfTheValue(t *testing.T) {
	for _, n := range []int{1, 2, 3, 100, maxCells - 1, maxCells} {
		for _, v := range []int{-maxCell, -maxCell + 1, -7, 0, 7, maxCell - 1, maxCell} {
			c := newRow(t, n, v)
			wantCells(t, "P4", c, slices.Repeat([]int{v}, n))
		}
	}
}

func TestNewRefuses(t *testing.T) {
	for _, n := range wild {
		for _, v := range wild {
			wrong := n < 1 || n > maxCells || v < -maxCell || v > maxCell
			c, e := calendar.New(n, v)
			if wrong && (c != nil || e != api.ErrArg) {
				t.Errorf("P4: New(%d, %d) = %v, %d, want nil, ErrArg", n, v, c, e)
			}
			if !wrong && (c == nil || e != api.OK) {
				t.Errorf("P4: New(%d, %d) = %v, %d, want a row, OK", n, v, c, e)
			}
		}
	}
}

// addWanted is what P5 says of Add, and what then stands in the row.
func addWanted(values []int, from int, to int, delta int) ([]int, api.Errno) {
	if from < 0 || from >= to || to > len(values) || delta < -2*maxCell || delta > 2*maxCell {
		return values, api.ErrArg
	}
	after := slices.Clone(values)
	for i := from; i < to; i++ {
		if sumBeyond(values[i], delta, maxCell) {
			return values, api.ErrRange
		}
		after[i] += delta
	}
	return after, api.OK
}

func TestAdd(t *testing.T) {
	deltas := []int{-2*maxCell + 1, -maxCell + 1, -maxCell + 5, -maxCell + 6, maxCell - 5, maxCell - 6, maxCell - 1, 2*maxCell - 1}
	deltas = append(deltas, wild...)
	rows := [][]int{{0}, {5, 5, 5}, {-5, 0, 5}, {maxCell, 0, 0, -maxCell}, {-maxCell, -maxCell}, {maxCell, maxCell, maxCell}, {0, 0, maxCell}, {maxCell, 0, 0}, {-maxCell, maxCell}}
	for _, values := range rows {
		for _, from := range wild {
			for _, to := range wild {
				for _, delta := range deltas {
					c := rowOf(t, values)
					after, want := addWanted(values, from, to, delta)
					if e := c.Add(from, to, delta); e != want {
						t.Fatalf("P5: to %v Add(%d, %d, %d) = %d, want %d", values, from, to, delta, e, want)
					}
					wantCells(t, "P5: behind Add", c, after)
				}
			}
		}
	}
}

func TestAddNamesTheFirstError(t *testing.T) {
	c := newRow(t, 2, maxCell)
	for _, k := range [][3]int{{0, 2, 2*maxCell + 1}, {0, 3, 1}, {1, 1, 1}, {-1, 2, 1}, {0, 2, math.MinInt}} {
		if e := c.Add(k[0], k[1], k[2]); e != api.ErrArg {
			t.Errorf("P1: to cells of MaxCell Add(%d, %d, %d) = %d, want ErrArg", k[0], k[1], k[2], e)
		}
	}
}

func TestAddFromEndToEnd(t *testing.T) {
	c := newRow(t, maxCells, -maxCell)
	want := slices.Repeat([]int{maxCell}, maxCells)
	if e := c.Add(0, maxCells, 2*maxCell); e != api.OK {
		t.Errorf("P5: Add of 2 MaxCell to cells of -MaxCell = %d, want OK", e)
	}
	wantCells(t, "P5: raised", c, want)
	if e := c.Add(maxCells-1, maxCells, -2*maxCell); e != api.OK {
		t.Errorf("P5: Add of -2 MaxCell to a cell of MaxCell = %d, want OK", e)
	}
	want[maxCells-1] = -maxCell
	wantCells(t, "P5: the last lowered", c, want)
	if e := c.Add(0, maxCells, -1); e != api.ErrRange {
		t.Errorf("P5: Add of -1 to a row whose last cell is -MaxCell = %d, want ErrRange", e)
	}
	wantCells(t, "P1: behind ErrRange at the last cell", c, want)
}

func TestMin(t *testing.T) {
	eachRow(5, func(values []int) {
		c := rowOf(t, values)
		for from := -1; from <= len(values)+1; from++ {
			for to := -1; to <= len(values)+1; to++ {
				want, wantErr := 0, api.ErrArg
				if 0 <= from && from < to && to <= len(values) {
					want, wantErr = slices.Min(values[from:to]), api.OK
				}
				if v, e := c.Min(from, to); v != want || e != wantErr {
					t.Fatalf("P5: of %v Min(%d, %d) = %d, %d, want %d, %d", values, from, to, v, e, want, wantErr)
				}
			}
		}
		wantCells(t, "P5: behind Min", c, values)
	})
}

func TestMinAtWildNumbers(t *testing.T) {
	values := []int{maxCell, -maxCell, 3, 1}
	c := rowOf(t, values)
	for _, from := range wild {
		for _, to := range wild {
			want, wantErr := 0, api.ErrArg
			if 0 <= from && from < to && to <= len(values) {
				want, wantErr = slices.Min(values[from:to]), api.OK
			}
			if v, e := c.Min(from, to); v != want || e != wantErr {
				t.Fatalf("P5: of %v Min(%d, %d) = %d, %d, want %d, %d", values, from, to, v, e, want, wantErr)
			}
		}
	}
}

// fitWanted is what P6 says of Fit, tried start by start.
func fitWanted(values []int, from int, n int, value int) (int, api.Errno) {
	if from < 0 || n < 1 || sumAbove(from, n, len(values)) {
		return 0, api.ErrArg
	}
	for s := from; s+n <= len(values); s++ {
		if slices.Min(values[s:s+n]) >= value {
			return s, api.OK
		}
	}
	return -1, api.OK
}

func TestFit(t *testing.T) {
	eachRow(6, func(values []int) {
		c := rowOf(t, values)
		for from := -1; from <= len(values)+1; from++ {
			for n := -1; n <= len(values)+1; n++ {
				for value := -1; value <= 3; value++ {
					want, wantErr := fitWanted(values, from, n, value)
					if s, e := c.Fit(from, n, value); s != want || e != wantErr {
						t.Fatalf("P6: of %v Fit(%d, %d, %d) = %d, %d, want %d, %d", values, from, n, value, s, e, want, wantErr)
					}
				}
			}
		}
		wantCells(t, "P6: behind Fit", c, values)
	})
}

func TestFitAtWildNumbers(t *testing.T) {
	values := []int{maxCell, -maxCell, 3, 1}
	c := rowOf(t, values)
	for _, from := range wild {
		for _, n := range wild {
			for _, value := range wild {
				want, wantErr := fitWanted(values, from, n, value)
				if s, e := c.Fit(from, n, value); s != want || e != wantErr {
					t.Fatalf("P6: of %v Fit(%d, %d, %d) = %d, %d, want %d, %d", values, from, n, value, s, e, want, wantErr)
				}
			}
		}
	}
}

func TestFitInTheLongestRow(t *testing.T) {
	c := newRow(t, maxCells, 1)
	for _, k := range [][3]int{{0, maxCells, 0}, {maxCells - 1, 1, maxCells - 1}, {1, maxCells - 1, 1}} {
		if s, e := c.Fit(k[0], k[1], 1); s != k[2] || e != api.OK {
			t.Errorf("P6: Fit(%d, %d, 1) = %d, %d, want %d, OK", k[0], k[1], s, e, k[2])
		}
	}
	if s, e := c.Fit(1, maxCells, 1); s != 0 || e != api.ErrArg {
		t.Errorf("P6: Fit(1, %d, 1) = %d, %d, want 0, ErrArg", maxCells, s, e)
	}
	c.Add(0, maxCells-1, -1)
	if s, e := c.Fit(0, 1, 1); s != maxCells-1 || e != api.OK {
		t.Errorf("P6: with the last cell alone at 1 Fit(0, 1, 1) = %d, %d, want %d, OK", s, e, maxCells-1)
	}
	if s, e := c.Fit(0, 2, 1); s != -1 || e != api.OK {
		t.Errorf("P6: with the last cell alone at 1 Fit(0, 2, 1) = %d, %d, want -1, OK", s, e)
	}
}

func TestRowsHaveNothingToDoWithOneAnother(t *testing.T) {
	a := newRow(t, 3, 4)
	b := newRow(t, 3, 4)
	a.Add(0, 3, 6)
	wantCells(t, "P2: the other row, behind Add", b, []int{4, 4, 4})
	b.Add(1, 2, -9)
	c := newRow(t, 2, 0)
	c.Add(0, 2, 1)
	wantCells(t, "P2: the first row", a, []int{10, 10, 10})
	wantCells(t, "P2: the second row", b, []int{4, -5, 4})
	wantCells(t, "P2: the third row", c, []int{1, 1})
}
