package field

import (
	"slices"
	"testing"

	"thermion/api"
)

// P1.4: charges that were found by hand.
func TestCharge(t *testing.T) {
	board := api.Plan{Wide: 16, High: 16, Round: true}
	for i := range 256 {
		board.Cells = append(board.Cells, 1+(i+i/16)%2)
	}
	for i, c := range []struct {
		p         api.Plan
		volts     []int
		sweeps, e int
		want      api.Range
	}{
		{planQ(), []int{0, 100}, 1, 2, api.Range{Lo: 12, Hi: 50}},
		{planQ(), []int{0, 100}, 1, 1, api.Range{Lo: -50, Hi: 0}},
		{planQ(), []int{0, 100}, 0, 2, api.Range{Lo: 0, Hi: 100}},
		{planR(), []int{0, 100}, 1, 2, api.Range{Lo: 40, Hi: 344}},
		{planR(), []int{0, 100}, 1, 1, api.Range{Lo: -134, Hi: 0}},
		{drawn(true, "12"), []int{5, 8}, 0, 2, api.Range{Lo: 6, Hi: 6}},
		{drawn(false, "12"), []int{5, 8}, 0, 1, api.Range{Lo: -3, Hi: -3}},
		// Cells of the same electrode do not count, those of each other one do.
		{drawn(false, "112", "113"), []int{5, 8, 1}, 0, 1, api.Range{Lo: 1, Hi: 1}},
		{drawn(false, "11", "11"), []int{5}, 0, 1, api.Range{}},
		// All weights of a full round plan are 16 x 240 in rows and 15 x 256 in columns.
		{board, []int{1000000, -1000000}, 0, 1, api.Range{Lo: 15360000000, Hi: 15360000000}},
		{board, []int{1000000, -1000000}, 200, 2, api.Range{Lo: -15360000000, Hi: -15360000000}},
	} {
		if r, e := Charge(c.p, c.volts, c.sweeps, c.e); r != c.want || e != api.OK {
			t.Error(i, r, e)
		}
	}
}

// P1.4: the errors of Charge, in their order.
func TestChargeErrors(t *testing.T) {
	left := drawn(false, "2.4")
	for i, c := range []struct {
		p         api.Plan
		volts     []int
		sweeps, e int
		want      api.Errno
	}{
		{planQ(), []int{0, 100}, 1, 3, api.ErrMissing},
		{planQ(), []int{0, 100}, 1, 0, api.ErrMissing},
		{planQ(), []int{0, 100}, 1, -1, api.ErrMissing},
		{planQ(), []int{0, 100}, 1, 7, api.ErrMissing},
		{left, []int{0, 0, 0, 0}, 1, 1, api.ErrMissing},
		{left, []int{0, 0, 0, 0}, 1, 3, api.ErrMissing},
		{planQ(), []int{0, 100}, 201, 3, api.ErrRange},
		{planQ(), []int{0, 100}, -1, 1, api.ErrRange},
		{planQ(), []int{0}, 201, 3, api.ErrForm},
		{drawn(false, ".."), []int{0}, 201, 3, api.ErrMissing},
	} {
		if r, e := Charge(c.p, c.volts, c.sweeps, c.e); r != none || e != c.want {
			t.Error(i, r, e)
		}
	}
}

// P1.4: influences that were found by hand.
func TestInfluence(t *testing.T) {
	for i, c := range []struct {
		p            api.Plan
		sweeps, a, k int
		want         api.Range
	}{
		{planQ(), 0, 2, 1, api.Range{Lo: 0, Hi: 1000000}},
		{planQ(), 1, 2, 1, api.Range{Lo: 0, Hi: 500000}},
		{planQ(), 1, 1, 2, api.Range{Lo: 125000, Hi: 500000}}, // lows 500000, 250000, 125000; the last high is 1000000 / 2
		{planQ(), 200, 1, 2, api.Range{Lo: 249998, Hi: 250002}},
		{drawn(false, "12"), 0, 1, 2, api.Range{Lo: 1000000, Hi: 1000000}},
		{drawn(true, ".12"), 0, 1, 2, api.Range{Lo: 4000000, Hi: 4000000}},
		{drawn(false, "132"), 9, 1, 2, api.Range{}},
		{drawn(false, "2.4"), 1, 4, 2, api.Range{Lo: 500000, Hi: 500000}},
	} {
		r, e := Influence(c.p, c.sweeps, c.a, c.k)
		if c.sweeps == 200 { // only what is true is known by hand
			if r.Lo < c.want.Lo || r.Hi > c.want.Hi || r.Lo > 250000 || r.Hi < 250000 {
				t.Error(i, r, e)
			}
			continue
		}
		if r != c.want || e != api.OK {
			t.Error(i, r, e)
		}
	}
	for _, r := range influences(t, drawn(false, "1.2.3", "4...5")) { // charges of others are turned into influences
		if r.Lo < 0 || r.Hi > 4*api.MaxVolt {
			t.Error(r)
		}
	}
}

// influences returns all influences of a plan after 9 sweeps.
func influences(t *testing.T, p api.Plan) []api.Range {
	t.Helper()
	var l []api.Range
	for _, a := range Electrodes(p) {
		for _, k := range Electrodes(p) {
			if a != k {
				l = append(l, influenced(t, p, 9, a, k))
			}
		}
	}
	return l
}

// P1.4: the errors of Influence, in their order.
func TestInfluenceErrors(t *testing.T) {
	left := drawn(false, "2.4")
	for i, c := range []struct {
		p            api.Plan
		sweeps, a, k int
		want         api.Errno
	}{
		{planQ(), 0, 1, 1, api.ErrExists},
		{planQ(), 0, 7, 1, api.ErrMissing},
		{planQ(), 0, 1, 7, api.ErrMissing},
		{planQ(), 0, 7, 7, api.ErrMissing},
		{planQ(), 0, 0, 0, api.ErrMissing},
		{planQ(), 0, 0, 1, api.ErrMissing},
		{planQ(), 0, 1, 0, api.ErrMissing},
		{left, 0, 3, 2, api.ErrMissing},
		{left, 0, 2, 1, api.ErrMissing},
		{planQ(), 201, 7, 1, api.ErrRange},
		{planQ(), -1, 1, 1, api.ErrRange},
		{drawn(false, ".."), 201, 1, 1, api.ErrMissing},
		{api.Plan{Wide: 1, High: 1}, 201, 1, 1, api.ErrForm},
	} {
		if r, e := Influence(c.p, c.sweeps, c.a, c.k); r != none || e != c.want {
			t.Error(i, r, e)
		}
	}
}

// P1.4: amplifications that were found by hand.
func TestAmplification(t *testing.T) {
	for i, c := range []struct {
		p               api.Plan
		sweeps, k, g, a int
		want            api.Range
	}{
		{drawn(false, "213"), 0, 1, 2, 3, api.Range{Lo: 1000, Hi: 1000}},
		{drawn(true, "213"), 0, 1, 2, 3, api.Range{Lo: 500, Hi: 500}},
		{drawn(true, "213"), 0, 1, 3, 2, api.Range{Lo: 2000, Hi: 2000}},
		{drawn(true, ".213"), 0, 1, 2, 3, api.Range{Lo: 666, Hi: 667}},
		{drawn(false, "3142"), 0, 1, 2, 3, api.Range{}},
		// Both influences have the vacuum cell in them: 0 to 1000000 against 1000000 to 2000000.
		{drawn(false, "31.2"), 0, 1, 2, 3, api.Range{Lo: 0, Hi: 1000}},
		{drawn(false, "31.2"), 1, 1, 2, 3, api.Range{Lo: 500, Hi: 500}},
		// 333333..333334 and 500000 against 333333..333334.
		{drawn(false, "1.3", ".2."), 1, 1, 2, 3, api.Range{Lo: 2499, Hi: 2501}},
	} {
		if r, e := Amplification(c.p, c.sweeps, c.k, c.g, c.a); r != c.want || e != api.OK {
			t.Error(i, r, e)
		}
	}
	// The influences in G are 23 / 22 and 5 / 22 of a million.
	r, e := Amplification(planG(), 200, 1, 2, 3)
	if e != api.OK || r.Lo > 4600 || r.Hi < 4600 || r.Hi-r.Lo > 4 {
		t.Error(r, e)
	}
}

// P1.4: an influence of at least 1 is enough for an amplification. Along the screen 4 each low is a third of the one before it: 333333, 111111, 37037, 12345, 4115, 1371, 457, 152, 50, 16, 5, 1, 0.
func TestAmplificationEdge(t *testing.T) {
	p := drawn(false, "3............1", "44444444444444")
	if r, e := Influence(p, 1, 3, 1); r != (api.Range{Lo: 1, Hi: 166668}) || e != api.OK {
		t.Error(r, e)
	}
	// Electrode 4 lies beside 1, so that its own influence is 1000000, and more by the last vacuum cell.
	grid, _ := Influence(p, 1, 4, 1)
	if r, e := Amplification(p, 1, 1, 4, 3); r != (api.Range{Lo: 1000 * grid.Lo / 166668, Hi: 1000 * grid.Hi}) || e != api.OK || grid.Lo < 1000000 {
		t.Error(r, e, grid)
	}
	p = drawn(false, "3.............1", "444444444444444")
	if r, e := Influence(p, 1, 3, 1); r.Lo != 0 || e != api.OK {
		t.Error(r, e)
	}
	if r, e := Amplification(p, 1, 1, 4, 3); r != none || e != api.ErrState {
		t.Error(r, e)
	}
}

// P1.4: an amplification is made of the ends of both influences, and is rounded outwards.
func TestAmplificationRounds(t *testing.T) {
	cases(t, 3, func(p api.Plan, _ []int, sweeps int) {
		l := Electrodes(p)
		if len(l) < 3 {
			return
		}
		k, g, a := l[1], l[2], l[0]
		plate, grid := influenced(t, p, sweeps, a, k), influenced(t, p, sweeps, g, k)
		r, e := Amplification(p, sweeps, k, g, a)
		if plate.Lo < 1 {
			if e != api.ErrState || r != none {
				t.Error(r, e)
			}
			return
		}
		if e != api.OK || r.Lo*plate.Hi > 1000*grid.Lo || (r.Lo+1)*plate.Hi <= 1000*grid.Lo {
			t.Error(r, e, "down")
		}
		if r.Hi*plate.Lo < 1000*grid.Hi || (r.Hi-1)*plate.Lo >= 1000*grid.Hi {
			t.Error(r, e, "up")
		}
	})
}

// P1.4: the errors of Amplification, in their order.
func TestAmplificationErrors(t *testing.T) {
	for i, c := range []struct {
		p               api.Plan
		sweeps, k, g, a int
		want            api.Errno
	}{
		{planG(), 0, 1, 2, 3, api.ErrState},
		{drawn(false, "123"), 9, 1, 2, 3, api.ErrState},
		{drawn(false, "21.3"), 0, 1, 2, 3, api.ErrState},
		{planG(), 0, 1, 1, 3, api.ErrExists},
		{planG(), 0, 1, 2, 1, api.ErrExists},
		{planG(), 0, 1, 2, 2, api.ErrExists},
		{planG(), 0, 4, 2, 2, api.ErrMissing},
		{planG(), 0, 2, 4, 2, api.ErrMissing},
		{planG(), 0, 2, 2, 4, api.ErrMissing},
		{planG(), 0, 0, 0, 0, api.ErrMissing},
		{planG(), 201, 4, 2, 2, api.ErrRange},
		{planG(), -1, 1, 2, 3, api.ErrRange},
		{drawn(false, "..."), 201, 1, 2, 3, api.ErrMissing},
		{api.Plan{Wide: 1, High: 1}, 201, 1, 2, 3, api.ErrForm},
	} {
		if r, e := Amplification(c.p, c.sweeps, c.k, c.g, c.a); r != none || e != c.want {
			t.Error(i, r, e)
		}
	}
}

// R7: roundings are downwards and upwards also below 0.
func TestRoundings(t *testing.T) {
	var down, up []int
	for n := -4; n <= 4; n++ {
		down, up = append(down, roundDown(n, 3)), append(up, roundUp(n, 3))
	}
	if !slices.Equal(down, []int{-2, -1, -1, -1, 0, 0, 0, 1, 1}) || !slices.Equal(up, []int{-1, -1, 0, 0, 0, 1, 1, 1, 2}) {
		t.Error(down, up)
	}
}
