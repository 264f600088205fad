package gauge

import (
	"slices"
	"testing"

	"thermion/api"
	"thermion/curve"
)

// P7.3, P7.4: the chapter's examples.
func TestExamplesOfSheets(t *testing.T) {
	for i, c := range []struct {
		l    []api.Shown
		want api.Range
		e    api.Errno
	}{{[]api.Shown{showed(0, 1000), showed(1, 1000)}, of(995, 1005), api.OK}, {[]api.Shown{showed(0, 1000), showed(1, 900)}, none, api.ErrClash}} {
		if r, e := Together(benchB(), c.l); r != c.want || e != c.e {
			t.Error(i, r, e)
		}
	}
	limits := []api.Range{of(95, 130), of(0, 9)}
	for i, c := range []struct {
		tick, number   int
		verdict, place int
		e              api.Errno
	}{{0, 110, api.Unsure, 1, api.OK}, {0, 150, api.Never, 0, api.OK}, {101, 110, 0, 0, api.ErrState}} {
		v, place, e := Sheet(benchB(), c.tick, limits, [][]api.Shown{{showed(0, c.number)}, {}})
		if v != c.verdict || place != c.place || e != c.e {
			t.Error(i, v, place, e)
		}
	}
}

// P7.3: Together's errors in their order; each number's errors come before those of the next one.
func TestErrorsOfTogether(t *testing.T) {
	type args struct {
		bench []api.Meter
		l     []api.Shown
	}
	inOrder(t, func() args { return args{benchX(), []api.Shown{showed(1, 20), showed(0, 20), showed(2, 40)}} }, []fault[args]{
		{func(a *args) { a.bench[1].Gain = one(0) }, api.ErrRange}, {func(a *args) { a.bench[1].By = 0 }, api.ErrLoose},
		{func(a *args) { a.l = append(a.l, make([]api.Shown, 8)...) }, api.ErrFull},
		{func(a *args) { a.l[0].Meter = 3 }, api.ErrMissing}, {func(a *args) { a.l[0].Number = 1000000010 }, api.ErrRange}, {func(a *args) { a.l[0].Number = 25 }, api.ErrForm},
		{func(a *args) { a.l[1].Meter = -1 }, api.ErrMissing}, {func(a *args) { a.l[1].Number = -1000000001 }, api.ErrRange},
		{func(a *args) { a.l[2].Meter = 1 << 40 }, api.ErrMissing}, {func(a *args) { a.l[2].Number = -1 << 63 }, api.ErrRange}, {func(a *args) { a.l[2].Number = 41 }, api.ErrForm},
		{func(a *args) { a.l[1].Number = 40 }, api.ErrClash}, {func(a *args) { a.l[0].Number = 0 }, api.ErrClash},
	}, func(a args) api.Errno {
		r, e := Together(a.bench, a.l)
		if e != api.OK && r != none {
			t.Error(r, e)
		}
		return e
	})
	// Nothing comes before the number of numbers but the bench; a number that can't be of any value is found before those behind it.
	if r, e := Together(benchX(), nil); r != none || e != api.ErrShort {
		t.Error(r, e)
	}
	b := row(2, meter(one(2000000), none, 1, -1))
	for i, c := range []struct {
		l    []api.Shown
		want api.Errno
	}{{[]api.Shown{showed(0, 8), showed(1, 17)}, api.ErrClash}, {[]api.Shown{showed(0, 9), showed(2, 8)}, api.ErrClash}, {[]api.Shown{showed(0, 8), showed(0, 10), showed(2, 8)}, api.ErrMissing}, {slices.Repeat([]api.Shown{showed(0, 8)}, 10), api.OK}, {slices.Repeat([]api.Shown{showed(0, 8)}, 11), api.ErrFull}} {
		if _, e := Together(b, c.l); e != c.want {
			t.Error(i, e)
		}
	}
}

// P7.3: what numbers say together is what each of them says.
func TestTogether(t *testing.T) {
	clashes := 0
	benches(t, 20, 2000, smallKind, func(d *dice, bench []api.Meter, m int) {
		x := d.from(-1000, 1000)
		l := append(d.shown(bench, x, 5), d.shown(bench, x+d.upTo(9), 4)...)
		if len(l) == 0 {
			return
		}
		want := all
		for _, s := range l {
			r, _ := True(bench, s.Meter, s.Number)
			want = of(max(want.Lo, r.Lo), min(want.Hi, r.Hi))
		}
		r, e := Together(bench, l)
		if want.Lo > want.Hi {
			clashes++
			if r != none || e != api.ErrClash {
				t.Error(l, r, e, want)
			}
		} else if r != want || e != api.OK {
			t.Error(l, r, e, want)
		}
	})
	if clashes < 50 || clashes > 1500 {
		t.Error(clashes)
	}
}

// sheet is what Sheet takes.
type sheet struct {
	bench  []api.Meter
	tick   int
	limits []api.Range
	l      [][]api.Shown
}

// sheetX is a sheet with three tests, the first of which is surely kept; nothing was shown in the last one.
func sheetX() sheet {
	b := benchX()
	b[0].Due, b[2].Due = 70, 50
	return sheet{b, 40, []api.Range{of(0, 100), of(0, 100), of(5, 9)}, [][]api.Shown{{showed(1, 20), showed(0, 20), showed(2, 40)}, {showed(2, 80), showed(1, 40)}, nil}}
}

// P7.4: Sheet's errors in their order; in each test meters and ticks come before what True and Together say.
func TestErrorsOfSheet(t *testing.T) {
	inOrder(t, sheetX, []fault[sheet]{
		{func(s *sheet) { s.bench[1].Gain = one(0) }, api.ErrRange}, {func(s *sheet) { s.bench[1].By = 0 }, api.ErrLoose},
		{func(s *sheet) { s.tick = -1 }, api.ErrRange}, {func(s *sheet) { s.tick = 1000000001 }, api.ErrRange},
		{func(s *sheet) { s.limits = append(s.limits, make([]api.Range, 18)...) }, api.ErrFull},
		{func(s *sheet) { s.l = append(s.l, nil) }, api.ErrForm},
		{func(s *sheet) { s.limits[0] = of(2, 1) }, api.ErrOrder}, {func(s *sheet) { s.l[0] = append(s.l[0], make([]api.Shown, 8)...) }, api.ErrFull},
		{func(s *sheet) { s.l[0][1].Meter = 3 }, api.ErrMissing}, {func(s *sheet) { s.tick = 71 }, api.ErrState}, {func(s *sheet) { s.l[0][2].Meter = -1 }, api.ErrMissing},
		{func(s *sheet) { s.l[0][0].Number = 1000000010 }, api.ErrRange}, {func(s *sheet) { s.l[0][2].Number = 41 }, api.ErrForm}, {func(s *sheet) { s.l[0][0].Number = 40 }, api.ErrClash},
		{func(s *sheet) { s.limits[1] = of(1<<62, 0) }, api.ErrOrder}, {func(s *sheet) { s.l[1][0].Meter = 3 }, api.ErrMissing}, {func(s *sheet) { s.l[1][1].Number = 41 }, api.ErrForm}, {func(s *sheet) { s.l[1][1].Number = 60 }, api.ErrClash},
		{func(s *sheet) { s.limits[2] = of(10, 9) }, api.ErrOrder}, {func(s *sheet) { s.l[2] = make([]api.Shown, 11) }, api.ErrFull}, {func(s *sheet) { s.l[2] = []api.Shown{showed(-1, 0)} }, api.ErrMissing}, {func(s *sheet) { s.l[2] = []api.Shown{showed(1, 11)} }, api.ErrForm},
	}, func(s sheet) api.Errno {
		verdict, place, e := Sheet(s.bench, s.tick, s.limits, s.l)
		if e != api.OK && (verdict != 0 || place != 0) {
			t.Error(verdict, place, e)
		}
		return e
	})
}

// P7.4: the edges of Sheet's limits.
func TestSheetEdges(t *testing.T) {
	for i, c := range []struct {
		change         func(s *sheet)
		verdict, place int
		e              api.Errno
	}{
		{func(s *sheet) {}, api.Unsure, 2, api.OK}, {func(s *sheet) { s.limits, s.l = s.limits[:2], s.l[:2] }, api.Sure, -1, api.OK}, {func(s *sheet) { s.limits, s.l = nil, nil }, api.Sure, -1, api.OK}, {func(s *sheet) { s.limits, s.l = []api.Range{}, [][]api.Shown{} }, api.Sure, -1, api.OK}, {func(s *sheet) { s.l[2] = []api.Shown{} }, api.Unsure, 2, api.OK},
		{func(s *sheet) { s.tick = 50 }, api.Unsure, 2, api.OK}, {func(s *sheet) { s.tick = 51 }, 0, 0, api.ErrState}, {func(s *sheet) { s.tick, s.l = 1000000000, [][]api.Shown{nil, nil, {showed(1, 10)}} }, api.Unsure, 0, api.OK}, {func(s *sheet) { s.tick = 0 }, api.Unsure, 2, api.OK},
		{func(s *sheet) { s.l[2] = slices.Repeat([]api.Shown{showed(1, 20)}, 10) }, api.Never, 2, api.OK}, {func(s *sheet) { s.limits, s.l = make([]api.Range, 20), make([][]api.Shown, 20) }, api.Unsure, 0, api.OK}, {func(s *sheet) { s.limits, s.l = make([]api.Range, 21), make([][]api.Shown, 21) }, 0, 0, api.ErrFull}, {func(s *sheet) { s.l = s.l[:2] }, 0, 0, api.ErrForm}, {func(s *sheet) { s.l = nil }, 0, 0, api.ErrForm}, {func(s *sheet) { s.limits = nil }, 0, 0, api.ErrForm},
		// Limits may lie beyond all values.
		{func(s *sheet) { s.limits[0], s.l[2] = of(-1<<63, 1<<63-1), s.l[1] }, api.Never, 2, api.OK}, {func(s *sheet) { s.limits[1] = one(1 << 62) }, api.Never, 1, api.OK},
		// A meter that is due is of no use, but another one may have been compared with it.
		{func(s *sheet) {
			s.bench[1].Due, s.l = 0, [][]api.Shown{{showed(0, 20)}, {showed(2, 80)}, {showed(0, 7)}}
		}, api.Unsure, 2, api.OK},
	} {
		s := changed(sheetX(), c.change)
		if v, place, e := Sheet(s.bench, s.tick, s.limits, s.l); v != c.verdict || place != c.place || e != c.e {
			t.Error(i, v, place, e)
		}
	}
}

// sheet returns a valid sheet for a bench of which nothing is due, whose values are as they are shown.
func (d *dice) sheet(bench []api.Meter) sheet {
	s := sheet{bench: bench}
	sure := d.upTo(3)
	for range d.upTo(5) {
		x := d.from(-1000, 1000)
		shown := d.shown(bench, x, 5)
		limits := d.near(x-60, x+10, 100)
		if r, e := Together(bench, shown); sure > 0 && e == api.OK { // most sheets have limits that are kept
			limits = d.wider(r, -2000, 2000)
		}
		s.limits, s.l = append(s.limits, limits), append(s.l, shown)
	}
	return s
}

// plainSheet returns the verdict of a sheet without errors, and its place.
func plainSheet(s sheet) (verdict, place int) {
	var all []int
	for i, l := range s.l {
		verdict := api.Unsure
		if r, e := Together(s.bench, l); e == api.OK {
			verdict = plainVerdict(r, s.limits[i])
		}
		all = append(all, verdict)
	}
	if n := slices.Index(all, api.Never); n >= 0 {
		return api.Never, n
	}
	if n := slices.Index(all, api.Unsure); n >= 0 {
		return api.Unsure, n
	}
	return api.Sure, -1
}

// P7.4: the verdict of a sheet is that of its worst test, its place that of the first such test.
func TestSheet(t *testing.T) {
	count, later := map[int]int{}, 0
	benches(t, 21, 3000, smallKind, func(d *dice, bench []api.Meter, m int) {
		s := d.sheet(bench)
		verdict, place := plainSheet(s)
		if v, at, e := Sheet(s.bench, 0, s.limits, s.l); v != verdict || at != place || e != api.OK {
			t.Error(s, v, at, e, verdict, place)
		}
		count[verdict]++
		if place > 0 {
			later++
		}
	})
	if count[api.Sure] < 300 || count[api.Never] < 300 || count[api.Unsure] < 300 || later < 300 {
		t.Error(count, later)
	}
}

// points is what Points takes.
type points struct {
	bench []api.Meter
	tick  int
	f     api.Family
	l     []api.Point
}

// familyF has 0..5 at the voltage -2000 of the grid, and 20..40 at 0.
func familyF() api.Family {
	return api.Family{Grid: []int{-2000, 0}, Plate: []int{0, 100000}, Low: [][]int{{0, 0}, {20, 20}}, High: [][]int{{5, 5}, {40, 40}}}
}

// pointsX are two points that surely lie in the family.
func pointsX() points {
	s := sheetX()
	return points{s.bench, s.tick, familyF(), []api.Point{{Grid: 0, Shown: []api.Shown{showed(1, 30), showed(0, 30)}}, {Grid: -1000, Plate: 50000, Shown: []api.Shown{showed(2, 32)}}}}
}

// P7.4: Points' errors in their order.
func TestErrorsOfPoints(t *testing.T) {
	inOrder(t, pointsX, []fault[points]{
		{func(p *points) { p.bench[1].Gain = one(0) }, api.ErrRange}, {func(p *points) { p.bench[1].By = 0 }, api.ErrLoose},
		{func(p *points) { p.f.Grid = nil }, api.ErrShort}, {func(p *points) { p.f.Plate = make([]int, 41) }, api.ErrFull}, {func(p *points) { p.f.Grid = []int{0, 0} }, api.ErrOrder}, {func(p *points) { p.f.Plate = []int{0, -1} }, api.ErrRange}, {func(p *points) { p.f.Low = nil }, api.ErrForm}, {func(p *points) { p.f.Low[0][0] = 6 }, api.ErrClash},
		{func(p *points) { p.tick = -1 }, api.ErrRange}, {func(p *points) { p.tick = 1000000001 }, api.ErrRange},
		{func(p *points) { p.l = append(p.l, make([]api.Point, 19)...) }, api.ErrFull},
		{func(p *points) { p.l[0].Grid = -1000001 }, api.ErrRange}, {func(p *points) { p.l[0].Shown = append(p.l[0].Shown, make([]api.Shown, 9)...) }, api.ErrFull}, {func(p *points) { p.l[0].Shown[0].Meter = 3 }, api.ErrMissing}, {func(p *points) { p.tick = 71 }, api.ErrState}, {func(p *points) { p.l[0].Shown[0].Number = 31 }, api.ErrForm}, {func(p *points) { p.l[0].Shown[0].Number = 60 }, api.ErrClash},
		{func(p *points) { p.l[1].Plate = -1 }, api.ErrRange}, {func(p *points) { p.l[1].Shown[0].Meter = -1 }, api.ErrMissing}, {func(p *points) { p.l[1].Shown[0].Number = 33 }, api.ErrForm},
	}, func(p points) api.Errno {
		verdict, place, e := Points(p.bench, p.tick, p.f, p.l)
		if e != api.OK && (verdict != 0 || place != 0) {
			t.Error(verdict, place, e)
		}
		return e
	})
	for i, c := range []struct {
		change         func(p *points)
		verdict, place int
		e              api.Errno
	}{
		{func(p *points) {}, api.Sure, -1, api.OK}, {func(p *points) { p.l = nil }, api.Sure, -1, api.OK}, {func(p *points) { p.l = make([]api.Point, 20) }, api.Unsure, 0, api.OK}, {func(p *points) { p.l = make([]api.Point, 21) }, 0, 0, api.ErrFull}, {func(p *points) { p.l[0].Grid, p.l[0].Plate = 1000000, 1000000 }, api.Sure, -1, api.OK}, {func(p *points) { p.l[0].Grid = -1000000 }, api.Never, 0, api.OK}, {func(p *points) { p.l[1].Plate = 1000001 }, 0, 0, api.ErrRange}, {func(p *points) { p.l[1].Grid = 0 }, api.Unsure, 1, api.OK}, {func(p *points) { p.l[1].Grid, p.l[1].Shown[0].Number = 0, 20 }, api.Never, 1, api.OK}, {func(p *points) { p.l[1].Shown = nil }, api.Unsure, 1, api.OK}, {func(p *points) { p.tick, p.l = 1000000000, p.l[:0] }, api.Sure, -1, api.OK},
	} {
		p := changed(pointsX(), c.change)
		if v, place, e := Points(p.bench, p.tick, p.f, p.l); v != c.verdict || place != c.place || e != c.e {
			t.Error(i, v, place, e)
		}
	}
}

// family returns a valid family with at most three lines in each direction, whose currents are at most some hundreds.
func (d *dice) family() api.Family {
	f := api.Family{Grid: []int{-2000, -1000 + d.upTo(900), 0}[d.upTo(3):], Plate: []int{0, 1 + d.upTo(99999), 100000}[d.upTo(3):]}
	low, high := d.upTo(20), 20+d.upTo(80)
	for range f.Grid {
		var lows, highs []int
		for range f.Plate {
			lows, highs = append(lows, low), append(highs, high)
			low += d.upTo(20)
			high = max(high, low) + d.upTo(20)
		}
		f.Low, f.High = append(f.Low, lows), append(f.High, highs)
	}
	return f
}

// point returns voltages, often those of lines of a family.
func (d *dice) point(f api.Family) (grid, plate int) {
	if d.upTo(2) == 0 {
		return d.from(-2500, 500), d.from(0, 120000)
	}
	return f.Grid[d.upTo(len(f.Grid))], f.Plate[d.upTo(len(f.Plate))]
}

// P7.4: points are the tests whose limits are what the family has at their voltages.
func TestPoints(t *testing.T) {
	count := map[int]int{}
	benches(t, 22, 2000, smallKind, func(d *dice, bench []api.Meter, m int) {
		f := d.family()
		var l []api.Point
		var s sheet
		for range d.upTo(5) {
			g, p := d.point(f)
			r, e := curve.At(f, g, p)
			if e != api.OK {
				t.Fatal(f, e)
			}
			x := d.from(r.Lo, r.Hi)
			if d.upTo(8) == 0 {
				x = d.from(0, 200)
			}
			shown := d.shown(bench, x, 4)
			l = append(l, api.Point{Grid: g, Plate: p, Shown: shown})
			s.limits, s.l = append(s.limits, r), append(s.l, shown)
		}
		verdict, place, e := Sheet(bench, 0, s.limits, s.l)
		if v, at, a := Points(bench, 0, f, l); v != verdict || at != place || a != e || e != api.OK {
			t.Error(f, l, v, at, a, verdict, place, e)
		}
		count[verdict]++
	})
	if count[api.Sure] < 200 || count[api.Never] < 200 || count[api.Unsure] < 200 {
		t.Error(count)
	}
}
