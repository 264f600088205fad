package field

import (
	"slices"
	"testing"

	"thermion/api"
)

// dice makes numbers for tests that are the same in each run.
type dice uint64

// upTo returns a number from 0 to n - 1.
func (d *dice) upTo(n int) int {
	*d = *d*6364136223846793005 + 1442695040888963407
	return int(uint64(*d)>>33) % n
}

// plan returns a valid plan of at most wide columns and high rows; about one cell of thin is part of an electrode.
func (d *dice) plan(wide, high, thin int) api.Plan {
	p := api.Plan{Wide: 1 + d.upTo(wide), High: 1 + d.upTo(high), Round: d.upTo(2) == 1}
	p.Cells = make([]int, p.Wide*p.High)
	for i := range p.Cells {
		if d.upTo(thin) == 0 {
			p.Cells[i] = 1 + d.upTo(api.MaxElectrodes)
		}
	}
	p.Cells[d.upTo(len(p.Cells))] = 1 + d.upTo(api.MaxElectrodes)
	return p
}

// volts returns voltages for a plan, from -most to most.
func (d *dice) volts(p api.Plan, most int) []int {
	l := make([]int, slices.Max(p.Cells))
	for i := range l {
		l[i] = d.upTo(2*most+1) - most
	}
	return l
}

// cases calls f with valid plans of many sizes, with voltages, and with a number of sweeps.
func cases(t *testing.T, seed dice, f func(p api.Plan, volts []int, sweeps int)) {
	t.Helper()
	d := &seed
	for i := range 400 {
		p := d.plan(2+i%7, 1+i%6, 2+i%5)
		if i%50 == 0 {
			p = d.plan(api.MaxSide, api.MaxSide, 12)
		}
		f(p, d.volts(p, []int{3, 100, 5000, api.MaxVolt}[i%4]), []int{0, 1, 2, 3, 7, 30, api.MaxSweeps}[i%7])
		if t.Failed() {
			t.Fatal("case ", i, ": ", p)
		}
	}
}

// drawn returns a plan of rows that are written as in its text.
func drawn(round bool, rows ...string) api.Plan {
	p := api.Plan{Wide: len(rows[0]), High: len(rows), Round: round}
	for _, row := range rows {
		for _, c := range row {
			if c == '.' {
				c = '0'
			}
			p.Cells = append(p.Cells, int(c-'0'))
		}
	}
	return p
}

// planQ, planR and planG are the plans of the chapter's examples.
func planQ() api.Plan { return drawn(false, "1...2") }
func planR() api.Plan { return drawn(true, "1...2") }
func planG() api.Plan { return drawn(false, "1...3", "1.2.3", "1...3") }

// solved returns Solve's result, which must not be an error.
func solved(t *testing.T, p api.Plan, volts []int, sweeps int) api.Field {
	t.Helper()
	f, e := Solve(p, volts, sweeps)
	if e != api.OK {
		t.Fatal(p, volts, sweeps, e)
	}
	return f
}

// influenced returns Influence's result, which must not be an error.
func influenced(t *testing.T, p api.Plan, sweeps, a, k int) api.Range {
	t.Helper()
	r, e := Influence(p, sweeps, a, k)
	if e != api.OK {
		t.Fatal(p, sweeps, a, k, e)
	}
	return r
}

// sameField reports whether two fields are equal in everything.
func sameField(a, b api.Field) bool {
	return slices.Equal(a.Low, b.Low) && slices.Equal(a.High, b.High) && a.Sweeps == b.Sweeps && a.Still == b.Still
}

// apart returns the weight of two cells as the document says it, by their columns and rows.
func apart(p api.Plan, a, b int) int {
	a, b = min(a, b), max(a, b)
	x, y := a%p.Wide, a/p.Wide
	switch {
	case b/p.Wide == y && b%p.Wide == x+1:
		if p.Round {
			return 2 * (x + 1)
		}
		return 1
	case b/p.Wide == y+1 && b%p.Wide == x:
		if p.Round {
			return 2*x + 1
		}
		return 1
	}
	return 0
}

// common reports whether two ranges have a number in common.
func common(a, b api.Range) bool { return a.Lo <= b.Hi && b.Lo <= a.Hi }

// none is the range that comes with errors.
var none api.Range
