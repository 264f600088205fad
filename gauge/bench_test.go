package gauge

import (
	"slices"
	"testing"

	"thermion/api"
)

// bench is a list of meters that faults can change.
type bench = []api.Meter

// benchFaults are the faults of benchX, in the order in which they are found.
func benchFaults() []fault[bench] {
	return []fault[bench]{
		{func(b *bench) { *b = append(*b, row(10, benchX()[1])...) }, api.ErrFull},
		{func(b *bench) { (*b)[0].Gain.Lo = 499999 }, api.ErrRange}, {func(b *bench) { (*b)[0].Gain.Hi = 2000001 }, api.ErrRange}, {func(b *bench) { (*b)[0].Gain = of(1000001, 1000000) }, api.ErrOrder},
		{func(b *bench) { (*b)[0].Off.Lo = -1000001 }, api.ErrRange}, {func(b *bench) { (*b)[0].Off.Hi = 1000001 }, api.ErrRange}, {func(b *bench) { (*b)[0].Off = of(1, 0) }, api.ErrOrder},
		{func(b *bench) { (*b)[0].Step = 0 }, api.ErrRange}, {func(b *bench) { (*b)[0].Due = -1 }, api.ErrRange}, {func(b *bench) { (*b)[0].By = 3 }, api.ErrRange},
		{func(b *bench) { (*b)[1].Gain = of(2000001, 2000000) }, api.ErrRange}, {func(b *bench) { (*b)[1].Gain = of(2000000, 500000) }, api.ErrOrder}, {func(b *bench) { (*b)[1].Off = of(-1000000, -1000001) }, api.ErrRange}, {func(b *bench) { (*b)[1].Off = of(1000000, -1000000) }, api.ErrOrder},
		{func(b *bench) { (*b)[1].Step = 1000001 }, api.ErrRange}, {func(b *bench) { (*b)[1].Due = 1000000001 }, api.ErrRange}, {func(b *bench) { (*b)[1].By = -2 }, api.ErrRange},
		{func(b *bench) { (*b)[2].Gain = of(1, 0) }, api.ErrRange}, {func(b *bench) { (*b)[2].Off = of(3, 2) }, api.ErrOrder}, {func(b *bench) { (*b)[2].By = 1 << 40 }, api.ErrRange},
		{func(b *bench) { (*b)[1].By = 2 }, api.ErrLoose}, {func(b *bench) { (*b)[1].By = 1 }, api.ErrLoose}, {func(b *bench) { (*b)[0].By = 2 }, api.ErrLoose},
	}
}

// P7.1: Check finds each error of a bench, and the first one if there are several.
func TestCheck(t *testing.T) {
	inOrder(t, benchX, benchFaults(), Check)
	for i, c := range []struct {
		change func(b bench)
		want   api.Errno
	}{
		{func(b bench) { b[0].Gain, b[1].Gain, b[2].Gain = one(500000), one(2000000), of(500000, 2000000) }, api.OK}, {func(b bench) { b[0].Off, b[1].Off, b[2].Off = one(-1000000), one(1000000), of(-1000000, 1000000) }, api.OK}, {func(b bench) { b[0].Step, b[1].Step = 1, 1000000 }, api.OK}, {func(b bench) { b[0].Due, b[1].Due = 0, 1000000000 }, api.OK}, {func(b bench) { b[0].By, b[1].By, b[2].By = -1, -1, -1 }, api.OK}, {func(b bench) { b[0].By, b[1].By, b[2].By = 2, 0, -1 }, api.OK}, {func(b bench) { b[0].By, b[1].By, b[2].By = 1, -1, 1 }, api.OK}, {func(b bench) { b[0].By, b[1].By, b[2].By = -1, 2, 1 }, api.ErrLoose}, {func(b bench) { b[2].By = 2 }, api.ErrLoose}, {func(b bench) { b[0].By, b[1].By, b[2].By = 0, 1, 2 }, api.ErrLoose},
	} {
		b := benchX()
		c.change(b)
		if e := Check(b); e != c.want {
			t.Error(i, e)
		}
	}
	for n := range 15 {
		if e := Check(row(n, benchX()[0])); (e == api.OK) != (n <= 12) || n > 12 && e != api.ErrFull {
			t.Error(n, e)
		}
	}
	ring := row(12, benchX()[0])
	ring[0].By = 11
	if e := Check(ring); e != api.ErrLoose {
		t.Error(e)
	}
	if Check(nil) != api.OK || Check(bench{}) != api.OK {
		t.Error("no meters")
	}
}

// P7.1, R3: all other functions that take a bench return its error before others, and nothing else with it; Chain returns nothing.
func TestErrorsOfBenches(t *testing.T) {
	for i, f := range benchFaults() {
		b := changed(benchX(), f.change)
		r1, e1 := True(b, -1, 1<<40)
		r2, e2 := Accept(b, 99, of(1, 0))
		r3, e3 := Together(b, nil)
		v4, p4, e4 := Sheet(b, -1, make([]api.Range, 21), nil)
		v5, p5, e5 := Points(b, -1, api.Family{}, make([]api.Point, 21))
		for _, e := range []api.Errno{e1, e2, e3, e4, e5} {
			if e != f.want {
				t.Error(i, e1, e2, e3, e4, e5)
			}
		}
		if r1 != none || r2 != none || r3 != none || v4 != 0 || p4 != 0 || v5 != 0 || p5 != 0 {
			t.Error(i, r1, r2, r3, v4, p4, v5, p5)
		}
		for m := range len(b) {
			if l := Chain(b, m); len(l) > 0 {
				t.Error(i, m, l)
			}
		}
	}
}

// P7.1: the chapter's examples.
func TestExamplesOfBenches(t *testing.T) {
	for i, c := range []struct {
		change func(b bench)
		want   api.Errno
	}{{func(b bench) {}, api.OK}, {func(b bench) { b[0].By = 1 }, api.ErrLoose}, {func(b bench) { b[0].By = 2 }, api.ErrRange}, {func(b bench) { b[1].Step = 0 }, api.ErrRange}} {
		b := benchB()
		c.change(b)
		if e := Check(b); e != c.want {
			t.Error(i, e)
		}
	}
	if l := Chain(benchB(), 1); !slices.Equal(l, []int{1, 0}) {
		t.Error(l)
	}
	m := benchB()[1]
	if a, b, c := Makes(m, 1000), Makes(m, -1000), Makes(benchB()[0], 7); a != of(985, 1015) || b != of(-1015, -985) || c != one(7) {
		t.Error(a, b, c)
	}
}

// P7.1: chains go from a meter to the standard; there is none of a meter that there is not.
func TestChain(t *testing.T) {
	for i, c := range []struct {
		m    int
		want []int
	}{{0, []int{0, 1}}, {1, []int{1}}, {2, []int{2, 0, 1}}, {3, nil}, {-1, nil}, {-2, nil}, {1 << 40, nil}} {
		if l := Chain(benchX(), c.m); !slices.Equal(l, c.want) {
			t.Error(i, l)
		}
	}
	if l := Chain(row(12, benchX()[0]), 11); !slices.Equal(l, []int{11, 10, 9, 8, 7, 6, 5, 4, 3, 2, 1, 0}) {
		t.Error(l)
	}
	if len(Chain(nil, 0)) > 0 || len(Chain(nil, -1)) > 0 {
		t.Error("no meters")
	}
	long := 0
	benches(t, 1, 500, greatKind, func(d *dice, b []api.Meter, m int) {
		l := Chain(b, m)
		if !slices.Equal(l, plainChain(b, m)) {
			t.Error(l)
		}
		if len(l) > 4 {
			long++
		}
	})
	if long < 50 {
		t.Error(long)
	}
}

// P7.1: Makes rounds outwards, on both sides of 0; its ends never fall; Step, By and Due do not matter.
func TestMakes(t *testing.T) {
	near := api.Meter{Gain: of(999999, 1000001), Off: of(-3, 4)}
	for i, c := range []struct {
		m    api.Meter
		x    int
		want api.Range
	}{
		{near, 0, of(-3, 4)}, {near, 1, of(-3, 6)}, {near, -1, of(-5, 4)}, {near, 1000000, of(999996, 1000005)}, {near, -1000000, of(-1000004, -999995)}, {near, 1000000000, of(999998997, 1000001004)}, {near, -1000000000, of(-1000001003, -999998996)},
		{api.Meter{Gain: one(500000)}, 3, of(1, 2)}, {api.Meter{Gain: one(500000)}, -3, of(-2, -1)}, {api.Meter{Gain: of(500000, 2000000)}, 3, of(1, 6)}, {api.Meter{Gain: of(500000, 2000000)}, -3, of(-6, -1)}, {api.Meter{Gain: one(2000000), Off: one(1000000)}, 1000000000, one(2001000000)}, {api.Meter{Gain: one(2000000), Off: one(-1000000)}, -1000000000, one(-2001000000)},
		{near, 1000000001, none}, {near, -1000000001, none}, {near, 1 << 62, none}, {near, -1 << 63, none},
		{api.Meter{}, 5, none}, {api.Meter{Gain: of(499999, 1000000)}, 5, none}, {api.Meter{Gain: of(1000000, 2000001)}, 5, none}, {api.Meter{Gain: of(1000001, 1000000)}, 5, none}, {api.Meter{Gain: one(1000000), Off: of(-1000001, 0)}, 5, none}, {api.Meter{Gain: one(1000000), Off: of(0, 1000001)}, 5, none}, {api.Meter{Gain: one(1000000), Off: of(1, 0)}, 5, none},
	} {
		for _, any := range []int{0, -1, 7, 1 << 62, -1 << 63} {
			c.m.Step, c.m.By, c.m.Due = any, any, any
			if r := Makes(c.m, c.x); r != c.want {
				t.Error(i, any, r)
			}
		}
	}
	for _, k := range []kind{smallKind, exactKind, greatKind} {
		benches(t, 2, 300, k, func(d *dice, b []api.Meter, m int) {
			x := d.from(-1000000000, 1000000000)
			for _, x := range []int{x, x / 1000, x / 100000000, 1000000000, -1000000000, 1, 0, -1} {
				r := Makes(b[m], x)
				if r != plainMakes(b[m], x) || r.Lo > r.Hi {
					t.Error(x, r)
				}
				if less := Makes(b[m], x-1); x > -1000000000 && (less.Lo > r.Lo || less.Hi > r.Hi) {
					t.Error(x, r, less)
				}
			}
		})
	}
}
