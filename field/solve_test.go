package field

import (
	"slices"
	"testing"

	"thermion/api"
)

// P1.2: bounds that were found by hand.
func TestSolve(t *testing.T) {
	for i, c := range []struct {
		p      api.Plan
		volts  []int
		sweeps int
		want   api.Field
	}{
		{planQ(), []int{0, 100}, 0, api.Field{Low: []int{0, 0, 0, 0, 100}, High: []int{0, 100, 100, 100, 100}}},
		{planQ(), []int{0, 100}, 1, api.Field{Low: []int{0, 0, 0, 50, 100}, High: []int{0, 50, 75, 88, 100}, Sweeps: 1}},
		{planQ(), []int{0, 100}, 2, api.Field{Low: []int{0, 0, 25, 62, 100}, High: []int{0, 38, 63, 82, 100}, Sweeps: 2}},
		{planQ(), []int{7, 7}, 0, api.Field{Low: []int{7, 7, 7, 7, 7}, High: []int{7, 7, 7, 7, 7}}},
		{planQ(), []int{7, 7}, 5, api.Field{Low: []int{7, 7, 7, 7, 7}, High: []int{7, 7, 7, 7, 7}, Sweeps: 1, Still: true}},
		{planQ(), []int{7, 7}, 1, api.Field{Low: []int{7, 7, 7, 7, 7}, High: []int{7, 7, 7, 7, 7}, Sweeps: 1, Still: true}},
		// Below 0 the roundings go the same ways: -88 is not below -87.5, and -50 / 4 is from -13 to -12.
		{planQ(), []int{0, -100}, 1, api.Field{Low: []int{0, -50, -75, -88, -100}, High: []int{0, 0, 0, -50, -100}, Sweeps: 1}},
		{drawn(false, "1.2"), []int{0, -1}, 9, api.Field{Low: []int{0, -1, -1}, High: []int{0, 0, -1}, Sweeps: 1, Still: true}},
		{drawn(false, "1.2"), []int{0, 1}, 9, api.Field{Low: []int{0, 0, 1}, High: []int{0, 1, 1}, Sweeps: 1, Still: true}},
		{drawn(false, "1.2"), []int{-7, -2}, 9, api.Field{Low: []int{-7, -5, -2}, High: []int{-7, -4, -2}, Sweeps: 2, Still: true}},
		// The weights are 2, 4, 6 and 8: 400 / 6, 868 / 10, 800 / 14 and 1322 / 14.
		{planR(), []int{0, 100}, 1, api.Field{Low: []int{0, 0, 0, 57, 100}, High: []int{0, 67, 87, 95, 100}, Sweeps: 1}},
		// In columns the weights are 1 and 3, in the row between them 2: (3 x 10 + 2 x 0) / 5 and then (10 + 2 x 6) / 3.
		{drawn(true, "11", ".."), []int{10}, 1, api.Field{Low: []int{10, 10, 10, 10}, High: []int{10, 10, 10, 10}, Sweeps: 1, Still: true}},
		{drawn(true, "12", ".."), []int{0, 10}, 1, api.Field{Low: []int{0, 10, 0, 6}, High: []int{0, 10, 7, 9}, Sweeps: 1}},
		// No cell is vacuum: nothing changes, and yet a sweep is done.
		{drawn(false, "12"), []int{3, 4}, 9, api.Field{Low: []int{3, 4}, High: []int{3, 4}, Sweeps: 1, Still: true}},
		{drawn(false, "12"), []int{3, 4}, 0, api.Field{Low: []int{3, 4}, High: []int{3, 4}}},
		// Electrode 1 is left out: its voltage is not one of the plan's.
		{drawn(false, "2.3"), []int{900, 4, 6}, 0, api.Field{Low: []int{4, 4, 6}, High: []int{4, 6, 6}}},
		{drawn(false, "2.3"), []int{-900, 4, 6}, 0, api.Field{Low: []int{4, 4, 6}, High: []int{4, 6, 6}}},
		{drawn(false, "2."), []int{900, api.MaxVolt}, 0, api.Field{Low: []int{api.MaxVolt, api.MaxVolt}, High: []int{api.MaxVolt, api.MaxVolt}}},
		{drawn(false, "2."), []int{900, -api.MaxVolt}, 0, api.Field{Low: []int{-api.MaxVolt, -api.MaxVolt}, High: []int{-api.MaxVolt, -api.MaxVolt}}},
	} {
		f, e := Solve(c.p, c.volts, c.sweeps)
		if e != api.OK || !sameField(f, c.want) {
			t.Error(i, f, e)
		}
	}
}

// P1.2: the errors, and their order.
func TestSolveErrors(t *testing.T) {
	for i, c := range []struct {
		p      api.Plan
		volts  []int
		sweeps int
		want   api.Errno
	}{
		{planQ(), []int{0, 100}, 200, api.OK},
		{planQ(), []int{0, 100}, 201, api.ErrRange},
		{planQ(), []int{0, 100}, -1, api.ErrRange},
		{planQ(), []int{0}, 201, api.ErrForm},
		{planQ(), []int{0, 1000001}, 1, api.ErrRange},
		{drawn(false, ".."), nil, 201, api.ErrMissing},
	} {
		f, e := Solve(c.p, c.volts, c.sweeps)
		if e != c.want || e != api.OK && !sameField(f, api.Field{}) {
			t.Error(i, f, e)
		}
	}
}

// plain does the sweeps as the document says them, cell by cell, with weights that are found by columns and rows.
func plain(p api.Plan, volts []int, sweeps int) api.Field {
	var f api.Field
	var on []int
	for _, e := range Electrodes(p) {
		on = append(on, volts[e-1])
	}
	for _, e := range p.Cells {
		if e != 0 {
			f.Low, f.High = append(f.Low, volts[e-1]), append(f.High, volts[e-1])
		} else {
			f.Low, f.High = append(f.Low, slices.Min(on)), append(f.High, slices.Max(on))
		}
	}
	for ; f.Sweeps < sweeps && !f.Still; f.Sweeps++ {
		f.Still = true
		for i, e := range p.Cells {
			if e != 0 {
				continue
			}
			low, high, weight := 0, 0, 0
			for k := range p.Cells {
				w := apart(p, i, k)
				low, high, weight = low+w*f.Low[k], high+w*f.High[k], weight+w
			}
			const far = 10000000 // makes the numbers positive, so that Go's division rounds down
			low = (low+far*weight)/weight - far
			high = (high+far*weight+weight-1)/weight - far
			f.Still = f.Still && low == f.Low[i] && high == f.High[i]
			f.Low[i], f.High[i] = low, high
		}
	}
	return f
}

// P1.2: the bounds are those of sweeps that are done as plainly as can be.
func TestSolvePlainly(t *testing.T) {
	cases(t, 1, func(p api.Plan, volts []int, sweeps int) {
		if len(p.Cells) > 60 {
			sweeps = min(sweeps, 7)
		}
		if f, want := solved(t, p, volts, sweeps), plain(p, volts, sweeps); !sameField(f, want) {
			t.Error(f, want)
		}
	})
}

// P1.2: sweeps end with the first that changes nothing, and only with it.
func TestSolveStands(t *testing.T) {
	cases(t, 2, func(p api.Plan, volts []int, _ int) {
		f := solved(t, p, volts, api.MaxSweeps)
		if !f.Still {
			if f.Sweeps != api.MaxSweeps {
				t.Error("ended early")
			}
			return
		}
		exact := solved(t, p, volts, f.Sweeps)
		before := solved(t, p, volts, f.Sweeps-1)
		if !sameField(f, exact) || before.Still || before.Sweeps != f.Sweeps-1 {
			t.Error("ended late", f, before)
		}
		if !slices.Equal(before.Low, f.Low) || !slices.Equal(before.High, f.High) {
			t.Error("not still")
		}
	})
}

// P1.3: Good wants valid arguments, numbers for all cells within the bounds of voltages, and good ones.
func TestGood(t *testing.T) {
	exact := []int{0, 25, 50, 75, 100}
	with := func(cell, n int) []int {
		l := slices.Clone(exact)
		l[cell] = n
		return l
	}
	wide := []int{-1000000, -1000000, -1000000, -1000000, -1000000}
	top := []int{1000000, 1000000, 1000000, 1000000, 1000000}
	for i, c := range []struct {
		p                api.Plan
		volts, low, high []int
		want             bool
	}{
		{planQ(), []int{0, 100}, exact, exact, true},
		{planQ(), []int{0, 100}, wide, top, true},
		{planQ(), []int{0, 100}, []int{0, 0, 0, 0, 100}, []int{0, 100, 100, 100, 100}, true},
		{planQ(), []int{0, 100}, []int{0, 0, 0, 0, 0}, exact, true},
		{planQ(), []int{0, 100}, []int{-1, -1, -1, -1, 99}, []int{1, 101, 101, 101, 101}, true},
		{planQ(), []int{0, 100}, with(2, 51), exact, false},
		{planQ(), []int{0, 100}, with(2, 49), exact, false}, // its neighbours are too high for it
		{planQ(), []int{0, 100}, exact, with(2, 49), false},
		{planQ(), []int{0, 100}, exact, with(2, 51), false},
		{planQ(), []int{0, 100}, with(0, 1), exact, false},
		{planQ(), []int{0, 100}, exact, with(0, -1), false},
		{planQ(), []int{0, 100}, with(4, 101), exact, false},
		{planQ(), []int{0, 100}, exact, with(4, 99), false},
		{planQ(), []int{0, 100}, exact[:4], exact, false},
		{planQ(), []int{0, 100}, exact, exact[:4], false},
		{planQ(), []int{0, 100}, nil, nil, false},
		{planQ(), []int{0, 100}, append(slices.Clone(exact), 0), exact, false},
		{planQ(), []int{0, 100}, exact, append(slices.Clone(exact), 0), false},
		{planQ(), []int{0, 100}, slices.Repeat([]int{-1000001}, 5), top, false}, // good but for their size
		{planQ(), []int{0, 100}, wide, slices.Repeat([]int{1000001}, 5), false},
		{planQ(), []int{0}, exact, exact, false},
		{planQ(), []int{0, 1000001}, wide, top, false},
		{api.Plan{Wide: 5, High: 1, Cells: []int{1, 0, 0, 0, 7}}, []int{0, 0, 0, 0, 0, 0, 0}, wide, top, false},
		{api.Plan{}, nil, nil, nil, false},
		{drawn(false, "..."), nil, []int{0, 0, 0}, []int{0, 0, 0}, false},
		// The weights count: 2 x 0 + 4 x 3 is 6 x 2.
		{drawn(true, "1.2"), []int{0, 3}, []int{0, 2, 3}, []int{0, 2, 3}, true},
		{drawn(false, "1.2"), []int{0, 3}, []int{0, 2, 3}, []int{0, 2, 3}, false},
		{drawn(false, "1.2"), []int{0, 3}, []int{0, 1, 3}, []int{0, 2, 3}, true},
	} {
		if is := Good(c.p, c.volts, c.low, c.high); is != c.want {
			t.Error(i, is)
		}
	}
}
