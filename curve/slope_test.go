package curve

import (
	"testing"

	"thermion/api"
)

// threeByThree is a family with cells of different widths.
func threeByThree() api.Family {
	return api.Family{
		Grid: []int{-10, -7, 0}, Plate: []int{0, 30, 100},
		Low:  [][]int{{0, 1, 5}, {2, 6, 9}, {4, 8, 30}},
		High: [][]int{{0, 3, 9}, {3, 9, 9}, {7, 9, 40}},
	}
}

// P2.4: slopes that were found by hand.
func TestSlope(t *testing.T) {
	for i, c := range []struct {
		f           api.Family
		cell, plate int
		want        api.Range
		e           api.Errno
	}{
		{familyF(), 0, 100000, of(25, 35), api.OK}, {familyF(), 0, 0, of(7, 10), api.OK}, {familyF(), 0, 50000, of(16, 23), api.OK},
		{familyF(), 0, 900000, of(25, 35), api.OK}, {familyF(), 0, 1000000, of(25, 35), api.OK},
		{familyF(), 1, 0, none, api.ErrMissing}, {familyF(), -1, 0, none, api.ErrMissing}, {familyF(), 1, -1, none, api.ErrMissing},
		{familyF(), 0, -1, none, api.ErrRange}, {familyF(), 0, 1000001, none, api.ErrRange},
		{api.Family{Grid: []int{0}, Plate: []int{0}, Low: [][]int{{0}}, High: [][]int{{0}}}, 0, 0, none, api.ErrMissing},
		// For a distance of 3: 2..3, 3..8 and 0..4.
		{threeByThree(), 0, 0, of(666, 1000), api.OK}, {threeByThree(), 0, 30, of(1000, 2667), api.OK}, {threeByThree(), 0, 100, of(0, 1334), api.OK},
		// A third of the way: (2 x 2 + 3) / 3 and (2 x 3 + 8) / 3; 4 of 7 parts of it: 3 x 3 / 7, and (3 x 8 + 4 x 4) / 7.
		{threeByThree(), 0, 10, of(777, 1556), api.OK}, {threeByThree(), 0, 70, of(428, 1905), api.OK},
		// For a distance of 7: 1..5, 0..3 and 21..31.
		{threeByThree(), 1, 0, of(142, 715), api.OK}, {threeByThree(), 1, 30, of(0, 429), api.OK}, {threeByThree(), 1, 100, of(3000, 4429), api.OK},
		{threeByThree(), 1, 31, of(42, 486), api.OK}, {threeByThree(), 1, 99, of(2957, 4372), api.OK},
		{threeByThree(), 2, 0, none, api.ErrMissing},
	} {
		if r, e := Slope(c.f, c.cell, c.plate); r != c.want || e != c.e {
			t.Error(i, r, e)
		}
	}
}

// P2.4: yields that were found by hand. The error of the voltage comes before that of the cell.
func TestYield(t *testing.T) {
	for i, c := range []struct {
		f          api.Family
		grid, cell int
		want       api.Range
		e          api.Errno
	}{
		{familyF(), 0, 0, of(400, 600), api.OK}, {familyF(), -2000, 0, of(50, 100), api.OK}, {familyF(), -1000, 0, of(225, 350), api.OK},
		{familyF(), 1000000, 0, of(400, 600), api.OK}, {familyF(), -1000000, 0, of(50, 100), api.OK},
		{familyF(), 0, 1, none, api.ErrMissing}, {familyF(), 0, -1, none, api.ErrMissing},
		{familyF(), 1000001, 1, none, api.ErrRange}, {familyF(), -1000001, 0, none, api.ErrRange},
		// For a distance of 30: 1..3, 3..7 and 1..5; of 70: 2..8, 0..3 and 21..32.
		{threeByThree(), -10, 0, of(33333, 100000), api.OK}, {threeByThree(), -7, 0, of(100000, 233334), api.OK}, {threeByThree(), 0, 0, of(33333, 166667), api.OK},
		{threeByThree(), -10, 1, of(28571, 114286), api.OK}, {threeByThree(), -7, 1, of(0, 42858), api.OK}, {threeByThree(), 0, 1, of(300000, 457143), api.OK},
		// A third of the way: (2 x 2 + 0) / 3 and (2 x 8 + 3) / 3.
		{threeByThree(), -9, 1, of(19047, 90477), api.OK},
		{threeByThree(), 0, 2, none, api.ErrMissing},
	} {
		if r, e := Yield(c.f, c.grid, c.cell); r != c.want || e != c.e {
			t.Error(i, r, e)
		}
	}
}

// P2.4: amplifications that were found by hand.
func TestGain(t *testing.T) {
	line := api.Family{Grid: []int{0}, Plate: []int{0, 1}, Low: [][]int{{0, 1}}, High: [][]int{{0, 1}}}
	column := api.Family{Grid: []int{0, 1}, Plate: []int{0}, Low: [][]int{{0}, {1}}, High: [][]int{{0}, {1}}}
	for i, c := range []struct {
		f    api.Family
		i, k int
		want api.Range
		e    api.Errno
	}{
		{familyF(), 0, 0, of(11666, 700000), api.OK}, // the slopes are 7..10 and 25..35, the yields 50..100 and 400..600
		{changed(familyF(), func(f *api.Family) { f.Low[0][1] = 5 }), 0, 0, none, api.ErrUnsure},
		{changed(familyF(), func(f *api.Family) { f.Low[1] = []int{20, 20} }), 0, 0, none, api.ErrUnsure},
		{familyF(), 1, 0, none, api.ErrMissing}, {familyF(), 0, 1, none, api.ErrMissing}, {familyF(), -1, 0, none, api.ErrMissing}, {familyF(), 0, -1, none, api.ErrMissing},
		{line, 0, 0, none, api.ErrMissing}, {column, 0, 0, none, api.ErrMissing}, {api.Family{}, 0, 0, none, api.ErrShort},
		// The slopes 666..1000 and 1000..2667, the yields 33333..100000 and 100000..233334.
		{threeByThree(), 0, 0, of(2854, 80011), api.OK},
		// The slopes 142..715 and 0..429, the yields 100000..233334 and 33333..166667.
		{threeByThree(), 1, 0, of(0, 21451), api.OK},
		{threeByThree(), 0, 1, none, api.ErrUnsure}, {threeByThree(), 1, 1, none, api.ErrUnsure}, {threeByThree(), 2, 1, none, api.ErrMissing}, {threeByThree(), 1, 2, none, api.ErrMissing},
		// A plate that counts a nanoampere for a volt is enough.
		{api.Family{Grid: []int{0, 1}, Plate: []int{0, 1000000}, Low: [][]int{{0, 1}, {1000, 1001}}, High: [][]int{{0, 1}, {1000, 1001}}}, 0, 0, one(1000000000000), api.OK},
		{api.Family{Grid: []int{0, 1}, Plate: []int{0, 1000000}, Low: [][]int{{0, 1}, {999999, 1000000}}, High: [][]int{{0, 1}, {999999, 1000000}}}, 0, 0, one(999999000000000), api.OK},
	} {
		if r, e := Gain(c.f, c.i, c.k); r != c.want || e != c.e {
			t.Error(i, r, e)
		}
	}
}

// P2.4, R7: slopes and yields with the greatest products.
func TestGreatSlopes(t *testing.T) {
	f := api.Family{Grid: []int{-1000000, 1000000}, Plate: []int{0, 1000000}, Low: [][]int{{0, 999999}, {1000000, 1000000}}, High: [][]int{{0, 999999}, {1000000, 1000000}}}
	// In the middle of the plate the slope is 500000.5 for 2000 volts.
	if r, e := Slope(f, 0, 500000); r != of(250, 251) || e != api.OK {
		t.Error(r, e)
	}
	if r, e := Yield(f, -1000000, 0); r != one(999999) || e != api.OK {
		t.Error(r, e)
	}
	if r, e := Yield(f, -999999, 0); r != of(999998, 999999) || e != api.OK {
		t.Error(r, e)
	}
	f.High[1][0] = 1000000
	f.Low[1], f.High[0] = []int{0, 1000000}, []int{0, 1000000}
	if r, e := Yield(f, 999999, 0); r != of(0, 1000000) || e != api.OK {
		t.Error(r, e)
	}
}

// P2.4: slopes and yields are those of the terms, by plain sums; amplifications are made of their ends.
func TestSlopesPlainly(t *testing.T) {
	families(t, 7, func(d *dice, f api.Family) {
		if len(f.Grid) > 1 {
			cell, p := d.upTo(len(f.Grid)-1), d.from(0, api.MaxVolt)
			if d.upTo(2) == 0 {
				p = min(f.Plate[len(f.Plate)-1]+2, d.from(0, 40))
			}
			k, y := plainSpot(f.Plate, p)
			low, high := 0, 0
			for s := range 2 {
				low += y[s] * max(0, f.Low[cell+1][k[s]]-f.High[cell][k[s]])
				high += y[s] * (f.High[cell+1][k[s]] - f.Low[cell][k[s]])
			}
			under := (y[0] + y[1]) * (f.Grid[cell+1] - f.Grid[cell])
			if r, e := Slope(f, cell, p); r != of(down(1000*low, under), up(1000*high, under)) || e != api.OK {
				t.Error(cell, p, r, e)
			}
		}
		if len(f.Plate) > 1 {
			cell, g := d.upTo(len(f.Plate)-1), d.from(-api.MaxVolt, api.MaxVolt)
			if d.upTo(2) == 0 {
				g = d.from(-40, 40)
			}
			i, x := plainSpot(f.Grid, g)
			low, high := 0, 0
			for s := range 2 {
				low += x[s] * max(0, f.Low[i[s]][cell+1]-f.High[i[s]][cell])
				high += x[s] * (f.High[i[s]][cell+1] - f.Low[i[s]][cell])
			}
			under := (x[0] + x[1]) * (f.Plate[cell+1] - f.Plate[cell])
			if r, e := Yield(f, g, cell); r != of(down(1000000*low, under), up(1000000*high, under)) || e != api.OK {
				t.Error(g, cell, r, e)
			}
		}
		plainGain(t, d, f)
	})
}

// plainGain checks the amplification in a cell of a family against its slopes and yields.
func plainGain(t *testing.T, d *dice, f api.Family) {
	t.Helper()
	if len(f.Grid) < 2 || len(f.Plate) < 2 {
		return
	}
	i, k := d.upTo(len(f.Grid)-1), d.upTo(len(f.Plate)-1)
	a, _ := Slope(f, i, f.Plate[k])
	b, _ := Slope(f, i, f.Plate[k+1])
	x, _ := Yield(f, f.Grid[i], k)
	y, _ := Yield(f, f.Grid[i+1], k)
	r, e := Gain(f, i, k)
	if min(x.Lo, y.Lo) == 0 {
		if r != none || e != api.ErrUnsure {
			t.Error(r, e)
		}
		return
	}
	if e != api.OK || r != of(1000000*min(a.Lo, b.Lo)/max(x.Hi, y.Hi), up(1000000*max(a.Hi, b.Hi), min(x.Lo, y.Lo))) {
		t.Error(r, e)
	}
}
