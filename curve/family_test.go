package curve

import (
	"slices"
	"testing"

	"thermion/api"
)

// P2.3: Check finds each error, and the first one if there are several; all functions of families return it.
func TestCheck(t *testing.T) {
	for i, c := range []struct {
		change func(f *api.Family)
		want   api.Errno
	}{
		{func(f *api.Family) {}, api.OK},
		{func(f *api.Family) { f.High[1][1] = 1000000 }, api.OK},
		{func(f *api.Family) { f.Low[1] = []int{20, 20} }, api.OK},
		{func(f *api.Family) { *f = linesOf([]int{-1000000}, []int{1000000}) }, api.OK},

		{func(f *api.Family) { *f = api.Family{} }, api.ErrShort},
		{func(f *api.Family) { f.Grid = nil }, api.ErrShort},
		{func(f *api.Family) { f.Plate = []int{} }, api.ErrShort},
		{func(f *api.Family) { f.Grid, f.Plate = make([]int, 41), nil }, api.ErrShort},
		{func(f *api.Family) { f.Grid = make([]int, 41) }, api.ErrFull},
		{func(f *api.Family) { f.Plate = make([]int, 41) }, api.ErrFull},
		{func(f *api.Family) { f.Grid[1], f.Plate[0] = -2000, -1 }, api.ErrOrder},
		{func(f *api.Family) { f.Grid[0] = -1000001 }, api.ErrRange},
		{func(f *api.Family) { f.Plate[0], f.Plate[1] = -1, -2 }, api.ErrRange},
		{func(f *api.Family) { f.Plate[0], f.Low = 100000, nil }, api.ErrOrder},

		{func(f *api.Family) { f.Low = f.Low[:1] }, api.ErrForm},
		{func(f *api.Family) { f.High = append(f.High, []int{99, 99}) }, api.ErrForm},
		{func(f *api.Family) { f.High = nil }, api.ErrForm},
		{func(f *api.Family) { f.High[1] = []int{20, 80, 90} }, api.ErrForm},
		{func(f *api.Family) { f.Low[1] = []int{20} }, api.ErrForm},
		{func(f *api.Family) { f.Low[0] = nil }, api.ErrForm},
		{func(f *api.Family) { f.Low[0][0], f.High[1] = -1, nil }, api.ErrForm},

		{func(f *api.Family) { f.Low[0][0] = -1 }, api.ErrRange},
		{func(f *api.Family) { f.High[1][1] = 1000001 }, api.ErrRange},
		{func(f *api.Family) { f.Low[1][1] = 1000001 }, api.ErrRange},
		{func(f *api.Family) { f.High[1][0] = -1 }, api.ErrRange},
		{func(f *api.Family) { f.High[1][0] = 19 }, api.ErrClash},
		{func(f *api.Family) { f.Low[0][1] = 11 }, api.ErrClash},
		{func(f *api.Family) { f.Low[1][1] = 19 }, api.ErrOrder},
		{func(f *api.Family) { f.High[0][1], f.Low[0][1] = 4, 4 }, api.ErrOrder},
		{func(f *api.Family) { f.Low[1][1], f.High[1][1] = 9, 9 }, api.ErrOrder},
		{func(f *api.Family) { f.Low[1][0], f.Low[0][0] = 4, 5 }, api.ErrOrder},
		{func(f *api.Family) { f.Low[1][0], f.High[1][0] = 0, 4 }, api.ErrOrder},

		// The first place with an error counts, whatever its error is; in a place the range comes before the clash, and this before the order.
		{func(f *api.Family) { f.Low[0][1], f.High[1][0] = 11, -1 }, api.ErrClash},
		{func(f *api.Family) { f.Low[0][1], f.High[0][1], f.Low[1][0] = 4, 4, -1 }, api.ErrOrder},
		{func(f *api.Family) { f.Low[1][0], f.High[0][1] = -1, 9 }, api.ErrClash},
		{func(f *api.Family) { f.Low[0][1], f.High[0][1] = 4, -1 }, api.ErrRange},
		{func(f *api.Family) { f.Low[0][1], f.High[0][1] = 4, 3 }, api.ErrClash},
	} {
		f := familyF()
		c.change(&f)
		_, a := At(f, 0, -1)
		_, b := Slope(f, 9, -1)
		_, d := Yield(f, 1000001, 9)
		_, e := Gain(f, 9, 9)
		s, g := Text(f)
		h, j := Hull([]api.Family{f})
		if x := Check(f); x != c.want || g != c.want || j != c.want || Inside(f, f) != (c.want == api.OK) {
			t.Error(i, x, g, j)
		}
		if c.want == api.OK {
			continue
		}
		if a != c.want || b != c.want || d != c.want || e != c.want || s != "" || !Same(h, api.Family{}) {
			t.Error(i, a, b, d, e, s, h)
		}
		if Inside(f, familyF()) || Inside(familyF(), f) {
			t.Error(i, "inside")
		}
	}
}

// P2.3: currents of a family that were found by hand.
func TestAt(t *testing.T) {
	// Lines that are as far apart as can be, and currents that are as great.
	great := api.Family{Grid: []int{-1000000, 1000000}, Plate: []int{0, 1000000}, Low: [][]int{{0, 999999}, {999998, 1000000}}, High: [][]int{{1, 1000000}, {1000000, 1000000}}}
	for i, c := range []struct {
		f           api.Family
		grid, plate int
		want        api.Range
	}{
		{familyF(), -1000, 50000, of(22, 29)}, {familyF(), -2000, 0, of(0, 5)}, {familyF(), 5000, 900000, of(60, 80)},
		{familyF(), -9000, 50000, of(5, 8)}, {familyF(), -500, 100000, of(47, 63)}, {familyF(), -1, 0, of(19, 20)}, {familyF(), 0, 1, of(20, 21)},
		{familyF(), -2000, 100000, of(10, 10)}, {familyF(), 0, 0, of(20, 20)}, {familyF(), 1, 0, of(20, 20)}, {familyF(), -2001, 0, of(0, 5)},
		{familyF(), -1999, 0, of(0, 6)}, {familyF(), 0, 100001, of(60, 80)}, {familyF(), 1000000, 1000000, of(60, 80)}, {familyF(), -1000000, 0, of(0, 5)},
		{api.Family{Grid: []int{5}, Plate: []int{7}, Low: [][]int{{3}}, High: [][]int{{4}}}, -99, 0, of(3, 4)},
		{api.Family{Grid: []int{5}, Plate: []int{7}, Low: [][]int{{3}}, High: [][]int{{4}}}, 5, 7, of(3, 4)},
		{api.Family{Grid: []int{0}, Plate: []int{10, 20, 40}, Low: [][]int{{0, 10, 70}}, High: [][]int{{0, 20, 70}}}, 0, 25, of(25, 33)},
		{api.Family{Grid: []int{10, 20, 40}, Plate: []int{0}, Low: [][]int{{0}, {10}, {70}}, High: [][]int{{0}, {20}, {70}}}, 25, 0, of(25, 33)},
		{great, 0, 500000, of(749999, 750001)}, // 2999997 / 4, and 3000001 / 4
		{great, 999999, 999999, of(999999, 1000000)},
		{great, -999999, 1, of(1, 3)},
	} {
		if r := looked(t, c.f, c.grid, c.plate); r != c.want {
			t.Error(i, r)
		}
	}
}

// plainSpot returns, for a voltage between lines, the lines on both sides, and how near each of them is.
func plainSpot(lines []int, v int) (sides, near [2]int) {
	last := len(lines) - 1
	if v <= lines[0] {
		return [2]int{0, 0}, [2]int{1, 0}
	}
	if v >= lines[last] {
		return [2]int{last, last}, [2]int{1, 0}
	}
	for i := range last {
		if lines[i] <= v && v < lines[i+1] {
			return [2]int{i, i + 1}, [2]int{lines[i+1] - v, v - lines[i]}
		}
	}
	panic("no place")
}

// plainValue returns the value of a table at two voltages, as a fraction.
func plainValue(f api.Family, t [][]int, grid, plate int) (over, under int) {
	i, x := plainSpot(f.Grid, grid)
	k, y := plainSpot(f.Plate, plate)
	for a := range 2 {
		for b := range 2 {
			over += x[a] * y[b] * t[i[a]][k[b]]
		}
	}
	return over, (x[0] + x[1]) * (y[0] + y[1])
}

// P2.3: At is the value of both tables, rounded outwards.
func TestAtPlainly(t *testing.T) {
	families(t, 4, func(d *dice, f api.Family) {
		most := min(api.MaxVolt, 2*max(-f.Grid[0], f.Plate[len(f.Plate)-1])+5)
		for range 40 {
			g, p := d.from(-most, most), d.from(0, most)
			low, under := plainValue(f, f.Low, g, p)
			high, _ := plainValue(f, f.High, g, p)
			if r := looked(t, f, g, p); r != of(low/under, (high+under-1)/under) {
				t.Error(g, p, r)
			}
		}
	})
}

// P2.3: which families lie inside others, found by hand.
func TestInside(t *testing.T) {
	tube := changed(familyF(), func(f *api.Family) { f.Low, f.High = [][]int{{5, 10}, {20, 70}}, [][]int{{5, 10}, {20, 70}} })
	flat := api.Family{Grid: []int{-1000, 0}, Plate: []int{0}, Low: [][]int{{22}, {22}}, High: [][]int{{22}, {22}}}
	// 7 of the straight way between 5 and 10, which has 7.5 there.
	three := api.Family{Grid: []int{-2000, 0}, Plate: []int{0, 50000, 100000}, Low: [][]int{{5, 7, 10}, {20, 45, 70}}, High: [][]int{{5, 7, 10}, {20, 45, 70}}}
	even := api.Family{Grid: []int{-2000, -1000, 0}, Plate: []int{0, 50000, 100000}, Low: [][]int{{0, 5, 10}, {10, 22, 35}, {20, 40, 60}}, High: [][]int{{5, 8, 10}, {13, 29, 45}, {20, 50, 80}}}
	for i, c := range []struct {
		f, tube api.Family
		want    bool
	}{
		{familyF(), familyF(), true},
		{familyF(), changed(familyF(), func(f *api.Family) { f.High[1][1] = 81 }), false},
		{changed(familyF(), func(f *api.Family) { f.High[1][1] = 81 }), familyF(), true},
		{familyF(), changed(familyF(), func(f *api.Family) { f.Low[1][1] = 59 }), false},
		{changed(familyF(), func(f *api.Family) { f.Low[1][1] = 59 }), familyF(), true},
		{familyF(), tube, true}, {tube, familyF(), false},
		{familyF(), flat, false}, {flat, familyF(), false}, {flat, flat, true},
		{familyF(), three, true}, {tube, three, false}, {three, tube, false},
		{even, familyF(), false}, // the least value at -1000 and 50000 is 22.5, the greatest one 28.75
		{familyF(), even, false},
		{changed(even, func(f *api.Family) { f.High[1][0] = 12 }), familyF(), false},
		{familyF(), api.Family{}, false}, {api.Family{}, familyF(), false}, {api.Family{}, api.Family{}, false},
	} {
		if Inside(c.f, c.tube) != c.want {
			t.Error(i)
		}
	}
}

// P2.3: families with other lines: what is inside at all lines of both is inside, half a microampere too much is not.
func TestInsideOtherLines(t *testing.T) {
	thin := api.Family{Grid: []int{0, 10}, Plate: []int{0, 10}, Low: [][]int{{0, 10}, {10, 25}}, High: [][]int{{0, 10}, {10, 25}}}
	for i, c := range []struct {
		low, high int // in the middle, where the value of thin is 11.25
		want      bool
	}{{11, 12, true}, {12, 12, false}, {11, 11, false}, {10, 13, true}} {
		f := api.Family{Grid: []int{0, 5, 10}, Plate: []int{0, 5, 10}, Low: [][]int{{0, 5, 10}, {5, c.low, 17}, {10, 17, 25}}, High: [][]int{{0, 5, 10}, {5, c.high, 18}, {10, 18, 25}}}
		if Inside(f, thin) != c.want {
			t.Error(i)
		}
	}
	// One line says the same everywhere: it holds what lies between its numbers.
	wide := api.Family{Grid: []int{99}, Plate: []int{99}, Low: [][]int{{0}}, High: [][]int{{25}}}
	if !Inside(wide, thin) || Inside(thin, wide) {
		t.Error("one line")
	}
	wide.High[0][0] = 24
	if Inside(wide, thin) {
		t.Error("24")
	}
}

// P2.3, R7: fractions whose products are greater than a word are compared exactly.
func TestInsideExactly(t *testing.T) {
	// Two straight ways over the whole width, which are 1/2000000 of a microampere apart at a line of the other family.
	way := func(end int) api.Family {
		return api.Family{Grid: []int{-1000000, 1000000}, Plate: []int{0, 999983}, Low: [][]int{{0, 0}, {0, end}}, High: [][]int{{0, 0}, {0, end}}}
	}
	near := changed(way(1000000), func(f *api.Family) { f.Plate[1] = 999979 })
	if Inside(way(1000000), near) || Inside(near, way(1000000)) || !Inside(near, near) {
		t.Error("other lines")
	}
	// The value of a at 999999 is 1000000 less 1/2, that of b the same, or less by 1/2000000.
	a := api.Family{Grid: []int{-1000000, 1000000}, Plate: []int{0}, Low: [][]int{{0}, {1000000}}, High: [][]int{{0}, {1000000}}}
	for i, c := range []struct {
		grid [2]int
		want bool
	}{{[2]int{-1000000, 999999}, false}, {[2]int{-999999, 1000000}, false}} {
		b := changed(a, func(f *api.Family) { f.Grid = c.grid[:] })
		if Inside(a, b) != c.want || Inside(b, a) != c.want {
			t.Error(i)
		}
	}
	for i, c := range []struct {
		a, b fraction
		want bool
	}{
		{fraction{1999999999999999999, 2000000000000}, fraction{2000000000000000000, 2000000000000}, true},
		{fraction{1999999999999999999, 2000000000000}, fraction{1999999999999999999, 2000000000000}, false},
		{fraction{2000000000000000000, 2000000000000}, fraction{1999999999999999999, 2000000000000}, false},
		{fraction{999999999999999999, 1000000000000}, fraction{2000000000000000000, 2000000000000}, true},
		{fraction{1000000000000000000, 2000000000000}, fraction{2000000000000000000, 2000000000000}, true},
		{fraction{2000000000000000000, 2000000000000}, fraction{1000000000000000000, 2000000000000}, false},
		{fraction{1, 1999999999999}, fraction{1, 2000000000000}, false},
		{fraction{1, 2000000000000}, fraction{1, 1999999999999}, true},
		{fraction{0, 1}, fraction{0, 2000000000000}, false},
	} {
		if c.a.less(c.b) != c.want {
			t.Error(i)
		}
	}
}

// everywhere reports whether tube lies inside f, by looking at all voltages from -most to most.
func everywhere(f, tube api.Family, most int) bool {
	for g := -most; g <= most; g++ {
		for p := 0; p <= most; p++ {
			a, under := plainValue(f, f.Low, g, p)
			b, _ := plainValue(f, f.High, g, p)
			c, by := plainValue(tube, tube.Low, g, p)
			d, _ := plainValue(tube, tube.High, g, p)
			if c*under < a*by || d*under > b*by {
				return false
			}
		}
	}
	return true
}

// around returns a family with lines of its own that has the currents of f there, often one more or less.
func around(t *testing.T, d *dice, f api.Family, most int) api.Family {
	t.Helper()
	h := linesOf(d.lines(1+d.upTo(6), -most, most), d.lines(1+d.upTo(5), 0, most))
	if d.upTo(2) == 0 { // with its own lines there may be nothing between them
		h = linesOf(slices.Compact(slices.Sorted(slices.Values(append(h.Grid, f.Grid...)))), slices.Compact(slices.Sorted(slices.Values(append(h.Plate, f.Plate...)))))
	}
	for i, g := range h.Grid {
		for k, p := range h.Plate {
			r := looked(t, f, g, p)
			h.Low[i][k] = max(before(h.Low, i, k), r.Lo-max(0, d.upTo(9)-7), 0)
			h.High[i][k] = max(before(h.High, i, k), h.Low[i][k], r.Hi+1-d.upTo(9)/8)
		}
	}
	return h
}

// P2.3: Inside is so if it is so at all voltages.
func TestInsidePlainly(t *testing.T) {
	d := dice(5)
	yes, no := 0, 0
	for range 1500 {
		f := d.family(3, 8, 4, 0)
		h := around(t, &d, f, 10)
		if Check(h) != api.OK {
			t.Fatal(h)
		}
		for _, c := range [][2]api.Family{{h, f}, {f, h}, {f, d.familyIn(f)}, {d.tubeIn(f), f}} {
			want := everywhere(c[0], c[1], 12)
			if Inside(c[0], c[1]) != want {
				t.Fatal(c, want)
			}
			if want {
				yes++
			} else {
				no++
			}
		}
	}
	if yes < 1000 || no < 1000 {
		t.Error("too few cases", yes, no)
	}
}

// P2.3: hulls, and the errors of families that have none.
func TestHull(t *testing.T) {
	f, flat := familyF(), api.Family{Grid: []int{-2000, 0}, Plate: []int{0}, Low: [][]int{{22}, {22}}, High: [][]int{{22}, {22}}}
	other := changed(familyF(), func(f *api.Family) { f.Grid = []int{-1999, 0} })
	tube := changed(familyF(), func(f *api.Family) { f.Low, f.High = [][]int{{6, 9}, {20, 90}}, [][]int{{6, 9}, {20, 90}} })
	want := changed(familyF(), func(f *api.Family) { f.Low, f.High = [][]int{{0, 9}, {20, 60}}, [][]int{{6, 10}, {20, 90}} })
	for i, c := range []struct {
		l    []api.Family
		want api.Family
		e    api.Errno
	}{
		{[]api.Family{f}, f, api.OK},
		{[]api.Family{f, f}, f, api.OK},
		{[]api.Family{f, tube}, want, api.OK},
		{[]api.Family{tube, f}, want, api.OK},
		{[]api.Family{tube, tube, f, tube}, want, api.OK},
		{slices.Repeat([]api.Family{f}, 40), f, api.OK},
		{slices.Repeat([]api.Family{f}, 41), api.Family{}, api.ErrFull},
		{make([]api.Family, 41), api.Family{}, api.ErrFull},
		{nil, api.Family{}, api.ErrShort},
		{[]api.Family{f, flat}, api.Family{}, api.ErrForm},
		{[]api.Family{f, other}, api.Family{}, api.ErrForm},
		{[]api.Family{f, flat, {}}, api.Family{}, api.ErrForm},
		{[]api.Family{f, {}, flat}, api.Family{}, api.ErrShort},
		{[]api.Family{f, {Grid: []int{0, 0}, Plate: []int{0}}}, api.Family{}, api.ErrOrder},
		{[]api.Family{{Grid: []int{0}, Plate: []int{-1}}, {}}, api.Family{}, api.ErrRange},
	} {
		if h, e := Hull(c.l); !Same(h, c.want) || e != c.e {
			t.Error(i, h, e)
		}
	}
}

// P2.3: a hull has the least and the greatest number of each place.
func TestHullPlainly(t *testing.T) {
	families(t, 6, func(d *dice, f api.Family) {
		l := []api.Family{d.familyIn(f), d.tubeIn(f), d.familyIn(f)}
		h, e := Hull(l)
		if e != api.OK || Check(h) != api.OK || !slices.Equal(h.Grid, f.Grid) || !slices.Equal(h.Plate, f.Plate) {
			t.Error(h, e)
			return
		}
		for i := range f.Grid {
			for k := range f.Plate {
				if h.Low[i][k] != min(l[0].Low[i][k], l[1].Low[i][k], l[2].Low[i][k]) || h.High[i][k] != max(l[0].High[i][k], l[1].High[i][k], l[2].High[i][k]) {
					t.Error(i, k, h)
				}
			}
		}
	})
}

// P2.5: Same sees each part of a family; Copy shares nothing. Both take families that are not valid.
func TestSameAndCopy(t *testing.T) {
	table := [][]int{{1, 2}, nil, {-3}}
	all := []api.Family{
		familyF(), {}, {Grid: []int{0}}, {Plate: []int{0}}, {Low: table}, {High: table}, {Low: table[:2]}, {Low: [][]int{{1, 2}, nil, {3}}},
		{Grid: []int{1, 2}}, {Grid: []int{2, 1}}, {Low: [][]int{nil}}, {High: [][]int{nil}}, {Low: [][]int{nil, nil}},
		changed(familyF(), func(f *api.Family) { f.High[1][1]++ }), changed(familyF(), func(f *api.Family) { f.Low[0][0]++ }),
	}
	for i, a := range all {
		for j, b := range all {
			if Same(a, b) != (i == j) {
				t.Error(i, j)
			}
		}
		if !Same(a, Copy(a)) {
			t.Error(i, Copy(a))
		}
	}
	if !Same(api.Family{}, api.Family{Grid: []int{}, Plate: []int{}, Low: [][]int{}, High: [][]int{}}) || !Same(api.Family{Low: [][]int{{}}}, api.Family{Low: [][]int{nil}}) {
		t.Error("nil lists are equal to empty ones")
	}
	f := familyF()
	for _, l := range listsOf(&f) {
		for k := range l {
			c := Copy(f)
			l[k]++
			if Same(c, f) || !Same(c, familyF()) {
				t.Error("shared", f)
			}
			l[k]--
		}
	}
	c := Copy(f)
	c.Low[0], c.High[1] = nil, nil
	if !Same(f, familyF()) {
		t.Error("shared", f)
	}
}

// listsOf returns all lists of numbers that a family has.
func listsOf(f *api.Family) [][]int {
	return slices.Concat([][]int{f.Grid, f.Plate}, f.Low, f.High)
}
