package curve

import (
	"slices"
	"testing"

	"thermion/api"
)

// P2.1: CheckLaw finds each error of each range, and the first one if there are several; all functions of laws return it.
func TestCheckLaw(t *testing.T) {
	for i, c := range []struct {
		change func(l *api.Law)
		want   api.Errno
	}{
		{func(l *api.Law) {}, api.OK},
		{func(l *api.Law) { *l = api.Law{Gain: one(1)} }, api.OK},
		{func(l *api.Law) { *l = api.Law{} }, api.ErrRange},

		{func(l *api.Law) { l.Perv = of(0, 1000000) }, api.OK},
		{func(l *api.Law) { l.Perv = of(0, 1000001) }, api.ErrRange},
		{func(l *api.Law) { l.Perv = of(-1, 5) }, api.ErrRange},
		{func(l *api.Law) { l.Perv = of(2, 1) }, api.ErrOrder},
		{func(l *api.Law) { l.Perv = of(9, -9) }, api.ErrOrder},

		{func(l *api.Law) { l.Gain = of(1, 1000000) }, api.OK},
		{func(l *api.Law) { l.Gain = of(0, 5) }, api.ErrRange},
		{func(l *api.Law) { l.Gain = of(1, 1000001) }, api.ErrRange},
		{func(l *api.Law) { l.Gain = of(1, 0) }, api.ErrOrder},

		{func(l *api.Law) { l.Shift = of(-1000000, 1000000) }, api.OK},
		{func(l *api.Law) { l.Shift = of(-1000001, 0) }, api.ErrRange},
		{func(l *api.Law) { l.Shift = of(0, 1000001) }, api.ErrRange},
		{func(l *api.Law) { l.Shift = of(0, -1) }, api.ErrOrder},

		{func(l *api.Law) { l.Full = of(0, 1000000) }, api.OK},
		{func(l *api.Law) { l.Full = of(0, 1000001) }, api.ErrRange},
		{func(l *api.Law) { l.Full = of(-1, 0) }, api.ErrRange},
		{func(l *api.Law) { l.Full = of(1, 0) }, api.ErrOrder},

		{func(l *api.Law) { l.Part = of(0, 1000000) }, api.OK},
		{func(l *api.Law) { l.Part = of(0, 1000001) }, api.ErrRange},
		{func(l *api.Law) { l.Part = of(-1, 0) }, api.ErrRange},
		{func(l *api.Law) { l.Part = of(1, 0) }, api.ErrOrder},

		// The first range with an error counts, whatever its error is.
		{func(l *api.Law) { l.Perv, l.Gain = of(-1, 0), of(2, 1) }, api.ErrRange},
		{func(l *api.Law) { l.Gain, l.Shift = of(2, 1), one(1000001) }, api.ErrOrder},
		{func(l *api.Law) { l.Shift, l.Full = one(1000001), of(2, 1) }, api.ErrRange},
		{func(l *api.Law) { l.Full, l.Part = of(2, 1), one(-1) }, api.ErrOrder},
	} {
		l := changed(lawL(), c.change)
		_, a := Drive(l, 0, 0)
		_, b := Current(l, 0, 0)
		_, d := Of(l, []int{0}, []int{0})
		_, e := Narrow(l, nil)
		if x := CheckLaw(l); x != c.want || a != c.want || b != c.want || d != c.want || e != c.want {
			t.Error(i, x, a, b, d, e)
		}
	}
}

// P2.1: drives and currents that were found by hand.
func TestDriveAndCurrent(t *testing.T) {
	for i, c := range []struct {
		l           api.Law
		grid, plate int
		drive, want api.Range
	}{
		{lawL(), -1000, 100000, one(4000), of(15178, 15179)},
		{lawM(), -1000, 100000, of(3761, 4264), of(13839, 16707)},
		{lawL(), -9000, 100000, none, none},
		{lawL(), -5000, 100000, none, none},
		{lawL(), -4999, 100000, one(1), of(0, 1)},
		{lawL(), 0, 0, none, none},
		{lawL(), 4000, 0, one(4000), of(15178, 15179)},
		{lawL(), 10000, 0, one(10000), one(60000)},
		{lawL(), 0, 7, of(0, 1), of(0, 1)},
		{lawL(), -1, 7, none, none},
		{changed(lawL(), func(l *api.Law) { l.Full = one(5000) }), 4000, 0, one(4000), one(5000)},
		{changed(lawL(), func(l *api.Law) { l.Full = of(5000, 15178) }), 4000, 0, one(4000), of(5000, 15178)},
		{changed(lawL(), func(l *api.Law) { l.Part = one(500000) }), 4000, 0, one(4000), of(7589, 7590)},
		{changed(lawL(), func(l *api.Law) { l.Part = of(0, 1) }), 4000, 0, one(4000), of(0, 1)},
		{changed(lawL(), func(l *api.Law) { l.Part = none }), 4000, 0, one(4000), none},
		{changed(lawL(), func(l *api.Law) { l.Perv = none }), 4000, 0, one(4000), none},
		{changed(lawL(), func(l *api.Law) { l.Perv = of(0, 1) }), 10000, 0, one(10000), of(0, 1)},
		{changed(lawL(), func(l *api.Law) { l.Perv = of(50000, 70000) }), 10000, 0, one(10000), of(50000, 70000)},
		{changed(lawL(), func(l *api.Law) { l.Shift = of(-100, 50) }), 10000, 0, of(9900, 10050), of(59102, 60451)},
		{changed(lawL(), func(l *api.Law) { l.Gain = one(1) }), 0, 1000000, one(1000000), one(100000)},
		{changed(lawL(), func(l *api.Law) { l.Gain = of(1, 1000000) }), 0, 1000000, of(1000, 1000000), of(1897, 100000)},
		// The drive comes to its bounds alone at its ends.
		{changed(lawL(), func(l *api.Law) { l.Shift = of(-1000000, 1000000) }), 0, 0, of(0, 1000000), of(0, 100000)},
		{changed(lawL(), func(l *api.Law) { l.Shift = one(-1000000) }), -1000000, 0, none, none},
		{changed(lawL(), func(l *api.Law) { l.Shift, l.Full = one(1000000), one(1000000) }), 1000000, 1000000, one(1000000), one(1000000)},
		{changed(lawL(), func(l *api.Law) { l.Shift = of(0, 1) }), 999999, 0, of(999999, 1000000), one(100000)},
		{changed(lawL(), func(l *api.Law) { l.Shift = of(-1, 1) }), 1000000, 0, of(999999, 1000000), one(100000)},
		// The greatest products: a root of 10^18, times 10^6.
		{changed(lawL(), func(l *api.Law) { l.Perv, l.Full = one(1000000), one(1000000) }), 1000000, 0, one(1000000), one(1000000)},
		{changed(lawL(), func(l *api.Law) { l.Perv, l.Full = one(1), one(1000000) }), 1000000, 0, one(1000000), one(1000)},
		{changed(lawL(), func(l *api.Law) { l.Perv, l.Full = one(1), one(1000000) }), 999999, 0, one(999999), of(999, 1000)},
	} {
		a, e := Drive(c.l, c.grid, c.plate)
		if a != c.drive || e != api.OK {
			t.Error(i, a, e)
		}
		b, e := Current(c.l, c.grid, c.plate)
		if b != c.want || e != api.OK {
			t.Error(i, b, e)
		}
	}
}

// P2.1: voltages that are not right.
func TestVoltages(t *testing.T) {
	for i, c := range []struct {
		grid, plate int
		want        api.Errno
	}{
		{1000000, 1000000, api.OK}, {-1000000, 0, api.OK},
		{1000001, 0, api.ErrRange}, {-1000001, 0, api.ErrRange}, {0, -1, api.ErrRange}, {0, 1000001, api.ErrRange}, {-1000001, -1, api.ErrRange},
	} {
		a, e1 := Drive(lawL(), c.grid, c.plate)
		b, e2 := Current(lawL(), c.grid, c.plate)
		d, e3 := At(familyF(), c.grid, c.plate)
		if e1 != c.want || e2 != c.want || e3 != c.want || c.want != api.OK && (a != none || b != none || d != none) {
			t.Error(i, a, e1, b, e2, d, e3)
		}
		// The error of the law, or of the family, comes first.
		_, e1 = Drive(changed(lawL(), func(l *api.Law) { l.Full = of(2, 1) }), c.grid, c.plate)
		_, e2 = Current(changed(lawL(), func(l *api.Law) { l.Full = of(2, 1) }), c.grid, c.plate)
		_, e3 = At(changed(familyF(), func(f *api.Family) { f.Low = nil }), c.grid, c.plate)
		if e1 != api.ErrOrder || e2 != api.ErrOrder || e3 != api.ErrForm {
			t.Error(i, e1, e2, e3)
		}
	}
}

// P2.1: drives and currents are rounded as the terms say, step by step.
func TestCurrentSteps(t *testing.T) {
	d := dice(1)
	for range 20000 {
		l := d.law()
		grid, plate := d.volts()
		low := grid + l.Shift.Lo + down(1000*plate, l.Gain.Hi)
		high := grid + l.Shift.Hi + up(1000*plate, l.Gain.Lo)
		want := of(min(max(low, 0), 1000000), min(max(high, 0), 1000000))
		if got, e := Drive(l, grid, plate); got != want || e != api.OK {
			t.Fatal(l, grid, plate, got, e)
		}
		r, s := rootOf(t, want.Lo), rootOf(t, want.Hi)
		if s*s < want.Hi*want.Hi*want.Hi {
			s++
		}
		whole := of(min(down(l.Perv.Lo*r, 1000000), l.Full.Lo), min(up(l.Perv.Hi*s, 1000000), l.Full.Hi))
		if got := ran(t, l, grid, plate); got != of(down(l.Part.Lo*whole.Lo, 1000000), up(l.Part.Hi*whole.Hi, 1000000)) {
			t.Fatal(l, grid, plate, got)
		}
	}
}

// rootOf returns the root of a a a, rounded down, which is found by halving.
func rootOf(t *testing.T, a int) int {
	t.Helper()
	low, high := 0, 1000000001
	for low+1 < high {
		if mid := (low + high) / 2; mid*mid <= a*a*a {
			low = mid
		} else {
			high = mid
		}
	}
	return low
}

// R7: roots are exact around whole squares, up to the greatest one.
func TestRoots(t *testing.T) {
	for _, n := range []int{0, 1, 2, 3, 4, 5, 8, 9, 10, 15, 16, 17, 255, 256, 257, 65535, 65536, 999999, 1000000, 99999999, 999999999, 1000000000} {
		if got := rootDown(n * n); got != n || rootUp(n*n) != n {
			t.Error(n, got)
		}
		if n > 1 && (rootDown(n*n-1) != n-1 || rootUp(n*n-1) != n || rootDown(n*n+1) != n || rootUp(n*n+1) != n+1) {
			t.Error(n)
		}
	}
	for n := range 5000 {
		r, s := rootDown(n), rootUp(n)
		if r*r > n || (r+1)*(r+1) <= n || s*s < n || s > 0 && (s-1)*(s-1) >= n {
			t.Error(n, r, s)
		}
	}
}

// P2.1: the family of a law, and its errors in their order.
func TestOf(t *testing.T) {
	f, e := Of(lawL(), []int{-1000, 0}, []int{0, 100000})
	want := api.Family{Grid: []int{-1000, 0}, Plate: []int{0, 100000}, Low: [][]int{{0, 15178}, {0, 21213}}, High: [][]int{{0, 15179}, {0, 21214}}}
	if e != api.OK || !Same(f, want) {
		t.Error(f, e)
	}
	f, e = Of(lawM(), []int{-1000}, []int{100000, 100001, 100002})
	want = api.Family{Grid: []int{-1000}, Plate: []int{100000, 100001, 100002}, Low: [][]int{{13839, 13839, 13844}}, High: [][]int{{16707, 16707, 16707}}}
	if e != api.OK || !Same(f, want) {
		t.Error(f, e)
	}
	many := make([]int, 41)
	for i := range many {
		many[i] = i
	}
	for i, c := range []struct {
		grid, plate []int
		want        api.Errno
	}{
		{many[:40], many[:40], api.OK},
		{[]int{-1000000, 1000000}, []int{0, 1000000}, api.OK},
		{nil, []int{0}, api.ErrShort},
		{[]int{0}, nil, api.ErrShort},
		{nil, many, api.ErrShort},
		{many, nil, api.ErrShort},
		{many, []int{-1}, api.ErrFull},
		{[]int{1000001}, many, api.ErrFull},
		{[]int{1000001, 0}, []int{0}, api.ErrRange},
		{[]int{-1000001, 0}, []int{0}, api.ErrRange},
		{[]int{0, 1000001}, []int{0}, api.ErrRange},
		{[]int{0, 0}, []int{-1}, api.ErrOrder},
		{[]int{1, 0}, []int{0}, api.ErrOrder},
		{[]int{1, 0, 1000001}, []int{0}, api.ErrOrder},
		{[]int{0}, []int{-1, -2}, api.ErrRange},
		{[]int{0}, []int{5, 1000001}, api.ErrRange},
		{[]int{0}, []int{5, 4}, api.ErrOrder},
		{[]int{0}, []int{5, 5}, api.ErrOrder},
		{[]int{0}, []int{5, 6, 6, -1}, api.ErrOrder},
	} {
		f, e := Of(lawL(), c.grid, c.plate)
		if e != c.want || e != api.OK && !Same(f, api.Family{}) {
			t.Error(i, f, e)
		}
		if _, e := Of(api.Law{}, c.grid, c.plate); e != api.ErrRange {
			t.Error(i, e)
		}
		f = api.Family{Grid: c.grid, Plate: c.plate}
		if e := Check(f); e != c.want && (c.want != api.OK || e != api.ErrForm) {
			t.Error(i, e)
		}
	}
}

// P2.1: each place of a family of a law has the ends of its current.
func TestOfPlaces(t *testing.T) {
	d := dice(2)
	for i := range 200 {
		l := d.law()
		most := []int{50, 9000, api.MaxVolt}[i%3]
		grid, plate := d.lines(1+i%7, -most, most), d.lines(1+i%5, 0, most)
		f := made(t, l, grid, plate)
		if !slices.Equal(f.Grid, grid) || !slices.Equal(f.Plate, plate) {
			t.Fatal(f, grid, plate)
		}
		for i, g := range grid {
			for k, p := range plate {
				if r := ran(t, l, g, p); r != of(f.Low[i][k], f.High[i][k]) {
					t.Fatal(l, g, p, r)
				}
			}
		}
	}
}
