package curve

import (
	"math/bits"
	"testing"

	"thermion/api"
	"thermion/field"
)

// P2.6 (monotone): with a greater voltage of grid or plate neither end of a current falls.
func TestMonotone(t *testing.T) {
	d := dice(10)
	for range 20000 {
		l := d.law()
		g, p := d.volts()
		h, q := min(api.MaxVolt, g+d.upTo(300)), min(api.MaxVolt, p+d.upTo(3000))
		a := ran(t, l, g, p)
		for _, b := range []api.Range{ran(t, l, h, p), ran(t, l, g, q), ran(t, l, h, q)} {
			if b.Lo < a.Lo || b.Hi < a.Hi {
				t.Fatal(l, g, p, h, q, a, b)
			}
		}
	}
}

// P2.7 (within), P0: the current of a law within another one lies within its current.
func TestWithin(t *testing.T) {
	d := dice(11)
	for range 20000 {
		l := d.law()
		in := d.lawIn(l)
		if !isLawIn(in, l) {
			t.Fatal(in, l)
		}
		g, p := d.volts()
		if a, b := ran(t, in, g, p), ran(t, l, g, p); !isIn(a, b) || a.Lo > a.Hi {
			t.Fatal(in, l, g, p, a, b)
		}
	}
}

// P2.8 (root): the current of a law without tolerances, which is far from full, holds the true one.
func TestRoot(t *testing.T) {
	d := dice(12)
	for range 20000 {
		l := api.Law{Perv: one(d.from(0, api.MaxPerv)), Gain: one(d.from(1, api.MaxGain)), Full: one(api.MaxCurrent), Part: one(api.Million)}
		g := d.from(1, []int{9, 1000, 100000, api.MaxVolt}[d.upTo(4)])
		r := ran(t, l, g, 0)
		if r.Hi == api.MaxCurrent {
			continue // it may be full
		}
		high, low := bits.Mul64(uint64(l.Perv.Lo*l.Perv.Lo), uint64(g*g*g))
		underHigh, underLow := bits.Mul64(uint64(1000000*r.Lo), uint64(1000000*r.Lo))
		overHigh, overLow := bits.Mul64(uint64(1000000*r.Hi), uint64(1000000*r.Hi))
		if underHigh > high || underHigh == high && underLow > low || overHigh < high || overHigh == high && overLow < low {
			t.Fatal(l, g, r)
		}
		if r.Hi-r.Lo > 2 { // both ends are near it
			t.Fatal(l, g, r)
		}
	}
}

// P2.9: Of makes valid families; at their lines At is the current; a law within another one has a family inside the other one's.
func TestFamiliesOfLaws(t *testing.T) {
	d := dice(13)
	for i := range 300 {
		l := d.law()
		most := []int{20, 9000, api.MaxVolt}[i%3]
		grid, plate := d.lines(1+i%7, -most, most), d.lines(1+i%5, 0, most)
		f := made(t, l, grid, plate)
		if e := Check(f); e != api.OK {
			t.Fatal(l, f, e)
		}
		for _, g := range grid {
			for _, p := range plate {
				if looked(t, f, g, p) != ran(t, l, g, p) {
					t.Fatal(l, g, p)
				}
			}
		}
		if in := made(t, d.lawIn(l), grid, plate); !Inside(f, in) {
			t.Fatal(l, f, in)
		}
	}
}

// P2.10: At never falls, and lies between the values at the lines around.
func TestAtRises(t *testing.T) {
	families(t, 14, func(d *dice, f api.Family) {
		for range 20 {
			g, p := d.from(-api.MaxVolt, api.MaxVolt), d.from(0, api.MaxVolt)
			if d.upTo(2) == 0 {
				g, p = d.from(-300, 300), d.from(0, 300)
			}
			h, q := d.from(g, min(api.MaxVolt, g+40)), d.from(p, min(api.MaxVolt, p+40))
			a, b := looked(t, f, g, p), looked(t, f, h, q)
			if b.Lo < a.Lo || b.Hi < a.Hi {
				t.Error(g, p, a, h, q, b)
			}
			i, _ := plainSpot(f.Grid, g)
			k, _ := plainSpot(f.Plate, p)
			if a.Lo < f.Low[i[0]][k[0]] || a.Lo > f.Low[i[1]][k[1]] || a.Hi < f.High[i[0]][k[0]] || a.Hi > f.High[i[1]][k[1]] {
				t.Error(g, p, a)
			}
		}
	})
}

// P2.10: a family inside another one lies within it at all voltages. P2.11: Inside is reflexive, and goes on from one to the next.
func TestInsideAtAll(t *testing.T) {
	families(t, 15, func(d *dice, f api.Family) {
		in := d.familyIn(f)
		tube := d.tubeIn(in)
		if Inside(in, f) != Same(in, f) || Inside(tube, in) != Same(tube, in) { // with the same lines only equal ones lie inside each other
			t.Error(in, tube)
		}
		for _, c := range [][2]api.Family{{f, f}, {f, in}, {in, tube}, {f, tube}, {tube, tube}} {
			if !Inside(c[0], c[1]) {
				t.Error(c)
			}
			for range 5 {
				g, p := d.from(-api.MaxVolt, api.MaxVolt), d.from(0, api.MaxVolt)
				if a, b := looked(t, c[0], g, p), looked(t, c[1], g, p); !isIn(b, a) {
					t.Error(g, p, a, b)
				}
			}
		}
	})
}

// P2.11: Inside goes on from one to the next, also with other lines.
func TestInsideGoesOn(t *testing.T) {
	d := dice(16)
	chains := 0
	for range 3000 {
		f := d.family(3, 8, 3, 0)
		g := around(t, &d, f, 8)
		h := around(t, &d, g, 8)
		if Inside(g, f) && Inside(h, g) {
			chains++
			if !Inside(h, f) {
				t.Fatal(f, g, h)
			}
		}
	}
	if chains < 300 {
		t.Error("too few cases", chains)
	}
}

// P2.11: each family of a hull lies inside the hull, which is the least one: no number of it can be better.
func TestHullHolds(t *testing.T) {
	families(t, 17, func(d *dice, f api.Family) {
		l := []api.Family{d.familyIn(f), d.tubeIn(f)}
		h, e := Hull(l)
		if e != api.OK || !Inside(f, h) {
			t.Error(h, e)
		}
		for _, in := range l {
			if !Inside(h, in) {
				t.Error(h, in)
			}
		}
		i, k := d.upTo(len(f.Grid)), d.upTo(len(f.Plate))
		if min(l[0].Low[i][k], l[1].Low[i][k]) != h.Low[i][k] || max(l[0].High[i][k], l[1].High[i][k]) != h.High[i][k] {
			t.Error(i, k, h)
		}
	})
}

// P2.12: the slope, and the yield, of a tube inside a family lie within those of the family.
func TestSlopesOfTubes(t *testing.T) {
	families(t, 18, func(d *dice, f api.Family) {
		tube := d.tubeIn(f)
		for cell := range len(f.Grid) - 1 {
			p := d.from(0, []int{30, 3000, api.MaxVolt}[d.upTo(3)])
			a, e := Slope(f, cell, p)
			b, e2 := Slope(tube, cell, p)
			if !isIn(b, a) || a.Lo > a.Hi || b.Hi > b.Lo+1 || e != api.OK || e2 != api.OK {
				t.Error(cell, p, a, b)
			}
		}
		for cell := range len(f.Plate) - 1 {
			g := d.from(-30, []int{30, 3000, api.MaxVolt}[d.upTo(3)])
			a, e := Yield(f, g, cell)
			b, e2 := Yield(tube, g, cell)
			if !isIn(b, a) || a.Lo > a.Hi || b.Hi > b.Lo+1 || e != api.OK || e2 != api.OK {
				t.Error(g, cell, a, b)
			}
		}
		gainsOfTubes(t, f, tube)
	})
}

// gainsOfTubes checks that the amplifications of a tube inside a family lie within those of the family, if that has any.
func gainsOfTubes(t *testing.T, f, tube api.Family) {
	t.Helper()
	for i := range len(f.Grid) - 1 {
		for k := range len(f.Plate) - 1 {
			a, e := Gain(f, i, k)
			b, e2 := Gain(tube, i, k)
			if e == api.OK && (e2 != api.OK || !isIn(b, a)) {
				t.Error(i, k, a, e, b, e2)
			}
		}
	}
}

// P2.13 (narrow): a narrowed law lies within the law; a law without tolerances that lies within it, and agrees with all readings, lies within the narrowed one.
func TestNarrowKeepsTheTrueOne(t *testing.T) {
	d := dice(19)
	narrower := 0
	for range 1500 {
		l := d.law()
		truth := d.alone(l)
		var reads []api.Reading
		for range 1 + d.upTo(12) {
			g, p := d.volts()
			c := ran(t, truth, g, p)
			x := d.from(c.Lo, c.Hi)
			reads = append(reads, at(g, p, x-d.upTo(50), x+d.upTo(50)))
		}
		got, e := Narrow(l, reads)
		if e != api.OK || !isLawIn(got, l) || !isLawIn(truth, got) || CheckLaw(got) != api.OK {
			t.Fatal(l, truth, reads, got, e)
		}
		again, e := Narrow(got, reads)
		if e != api.OK || !isLawIn(again, got) || !isLawIn(truth, again) {
			t.Fatal(again, got, e)
		}
		if got != l {
			narrower++
		}
	}
	if narrower < 500 {
		t.Error("too few cases", narrower)
	}
}

// T1 (sweeps): with more sweeps the amplification of a plan lies within what it was, and so do the currents of a law with it.
func TestSweeps(t *testing.T) {
	p, _, e := field.Parse("flat\n1...3\n1.2.3\n1...3\n")
	if e != api.OK {
		t.Fatal(e)
	}
	law := func(sweeps int) api.Law {
		l := lawM()
		l.Gain, e = field.Amplification(p, sweeps, 1, 2, 3)
		if e != api.OK || CheckLaw(l) != api.OK {
			t.Fatal(sweeps, l, e)
		}
		return l
	}
	d := dice(20)
	was := law(4) // with fewer sweeps the influence of the plate may be nothing
	for sweeps := 5; sweeps < 40; sweeps++ {
		l := law(sweeps)
		if !isIn(l.Gain, was.Gain) {
			t.Error(sweeps, l.Gain, was.Gain)
		}
		for range 30 {
			g, p := d.volts()
			if a, b := ran(t, l, g, p), ran(t, was, g, p); !isIn(a, b) {
				t.Error(sweeps, g, p, a, b)
			}
		}
		was = l
	}
}
