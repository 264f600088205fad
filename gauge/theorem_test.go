package gauge

import (
	"math/bits"
	"slices"
	"testing"

	"thermion/api"
	"thermion/curve"
)

// P7.7 (true), P0: a value of which a meter may show a number is a true value for it.
func TestShownValuesAreTrue(t *testing.T) {
	for _, k := range []kind{smallKind, exactKind, greatKind} {
		count := 0
		benches(t, 50, 3000, k, func(d *dice, bench []api.Meter, m int) {
			for _, x := range []int{d.of(all), d.from(-1000000, 1000000), d.from(-100, 100)} {
				number, is := d.shows(bench, m, x)
				if !is {
					continue
				}
				count++
				if r := trueOf(t, bench, m, number); !isRangeIn(one(x), r) {
					t.Error(x, number, r)
				}
			}
		})
		if count < 2000 {
			t.Error(k, count)
		}
	}
}

// P7.8: with a greater number neither end of the true values is less.
func TestGreaterNumbers(t *testing.T) {
	for _, k := range []kind{smallKind, exactKind, greatKind} {
		count := 0
		benches(t, 51, 2000, k, func(d *dice, bench []api.Meter, m int) {
			number := d.number(bench[m], d.of(plainEnds(bench, m, d.from(-1000000000, 1000000000))))
			more := d.number(bench[m], number+[]int{d.upTo(30), d.upTo(3000000), d.upTo(1000000000)}[d.upTo(3)])
			r, e1 := True(bench, m, min(number, more))
			s, e2 := True(bench, m, max(number, more))
			if e1 != api.OK || e2 != api.OK {
				return
			}
			count++
			if s.Lo < r.Lo || s.Hi < r.Hi {
				t.Error(number, more, r, s)
			}
		})
		if count < 300 {
			t.Error(k, count)
		}
	}
}

// benchIn returns a bench whose meters have gains and offsets within those of another one.
func (d *dice) benchIn(bench []api.Meter) []api.Meter {
	l := slices.Clone(bench)
	for m, x := range l {
		if d.upTo(2) == 0 {
			l[m].Gain, l[m].Off = d.in(x.Gain), d.in(x.Off)
		}
	}
	return l
}

// P7.9, P0: with gains and offsets within others the true values lie within what they were; verdicts that are Sure or Never stay.
func TestBetterMeters(t *testing.T) {
	for _, k := range []kind{smallKind, greatKind} {
		count := 0
		benches(t, 52, 3000, k, func(d *dice, bench []api.Meter, m int) {
			in := d.benchIn(bench)
			number := d.number(bench[m], d.of(plainEnds(bench, m, d.from(-1000000000, 1000000000))))
			r, e := True(in, m, number)
			if e != api.OK {
				return
			}
			count++
			wide := trueOf(t, bench, m, number)
			limits := d.any(-1000000000, 1000000000)
			if d.upTo(2) == 0 {
				limits = d.wider(wide, -1000000000, 1000000000)
			}
			v, w := Verdict(wide, limits), Verdict(r, limits)
			if !isRangeIn(r, wide) || v != api.Unsure && v != w {
				t.Error(in, number, r, wide, limits, v, w)
			}
		})
		if count < 500 {
			t.Error(k, count)
		}
	}
}

// between returns numbers from one to another one, all of them or some at both ends.
func between(from, to, step int) []int {
	var l []int
	for n := from; n <= to && len(l) < 200; n += step {
		l = append(l, n)
	}
	for n := to; n >= from && len(l) < 400; n -= step {
		l = append(l, n)
	}
	return l
}

// P7.10 (guard): each number that is accepted says a value in the limits, or none; the next ones on both sides do not, and none far from them does.
func TestGuard(t *testing.T) {
	for _, k := range []kind{smallKind, exactKind, greatKind} {
		count := 0
		benches(t, 53, 500, k, func(d *dice, bench []api.Meter, m int) {
			step := bench[m].Step
			limits := d.any(-1100000000, 1100000000)
			if d.upTo(2) == 0 {
				limits = d.near(-1000000, 1000000, 100)
			}
			r, e := Accept(bench, m, limits)
			if e == api.ErrState {
				for range 20 { // what meters show of values in the limits does not say that they lie there
					if number, is := d.shows(bench, m, d.of(of(max(limits.Lo, all.Lo), max(limits.Lo, all.Lo)+20))); is {
						if sure, _ := surely(t, bench, m, number, limits); sure {
							t.Error(limits, number)
						}
					}
				}
				return
			}
			if count++; e != api.OK || r.Lo > r.Hi || r.Lo%step != 0 || r.Hi%step != 0 || !isRangeIn(r, all) {
				t.Error(limits, r, e)
			}
			for _, n := range between(r.Lo, r.Hi, step) {
				if sure, some := surely(t, bench, m, n, limits); some != sure || !some && (n == r.Lo || n == r.Hi) {
					t.Error(limits, r, n)
				}
			}
			for _, n := range slices.Concat(between(max(r.Lo-200*step, ceil(all.Lo, step)*step), r.Lo-step, step), between(r.Hi+step, min(r.Hi+200*step, floor(all.Hi, step)*step), step)) {
				if sure, _ := surely(t, bench, m, n, limits); sure {
					t.Error(limits, r, n)
				}
			}
		})
		if count < 100 {
			t.Error(k, count)
		}
	}
}

// P7.11, P0: what numbers say together does not depend on their order, lies within what each of them says, and has the value of which all were shown.
func TestSaidTogether(t *testing.T) {
	for _, k := range []kind{smallKind, exactKind, greatKind} {
		count := 0
		benches(t, 54, 2000, k, func(d *dice, bench []api.Meter, m int) {
			x := []int{d.of(all), d.from(-100000, 100000)}[d.upTo(2)]
			l := d.shown(bench, x, 10)
			if len(l) == 0 {
				return
			}
			r, e := Together(bench, l)
			if e != api.OK || !isRangeIn(one(x), r) {
				t.Error(x, l, r, e)
			}
			for _, s := range l {
				if !isRangeIn(r, trueOf(t, bench, s.Meter, s.Number)) {
					t.Error(l, s, r)
				}
			}
			other := slices.Clone(l)
			for i := range other {
				k := d.upTo(i + 1)
				other[i], other[k] = other[k], other[i]
			}
			if s, e := Together(bench, other); s != r || e != api.OK {
				t.Error(l, other, r, s, e)
			}
			if len(l) > 1 {
				count++
			}
		})
		if count < 500 {
			t.Error(k, count)
		}
	}
}

// P7.12: within wider limits a Sure verdict stays Sure; within narrower ones Never stays Never.
func TestOtherLimits(t *testing.T) {
	d := dice(55)
	count := map[int]int{}
	for range 5000 {
		r, limits := d.any(-60, 60), d.any(-90, 90)
		wide, narrow := d.wider(limits, -100, 100), d.in(limits)
		v := Verdict(r, limits)
		if count[v]++; v == api.Sure && Verdict(r, wide) != api.Sure || v == api.Never && Verdict(r, narrow) != api.Never {
			t.Fatal(r, limits, wide, narrow)
		}
	}
	if count[api.Sure] < 500 || count[api.Never] < 500 || count[api.Unsure] < 500 {
		t.Error(count)
	}
}

// badness says how bad a verdict is.
var badness = map[int]int{api.Sure: 0, api.Unsure: 1, api.Never: 2}

// P7.13: with one test more no verdict of a sheet becomes better.
func TestMoreTests(t *testing.T) {
	worse := 0
	benches(t, 56, 3000, smallKind, func(d *dice, bench []api.Meter, m int) {
		s, more := d.sheet(bench), d.sheet(bench)
		if len(more.l) == 0 {
			return
		}
		v, _, e1 := Sheet(bench, 0, s.limits, s.l)
		at := d.upTo(len(s.l) + 1)
		w, _, e2 := Sheet(bench, 0, slices.Insert(s.limits, at, more.limits[0]), slices.Insert(s.l, at, more.l[0]))
		if e1 != api.OK || e2 != api.OK || badness[w] < badness[v] {
			t.Error(s, more, at, v, w, e1, e2)
		}
		if v != w {
			worse++
		}
	})
	if worse < 300 {
		t.Error(worse)
	}
}

// tubeIn returns a tube inside a family, with its lines.
func (d *dice) tubeIn(f api.Family) api.Family {
	x := curve.Copy(f)
	for i := range x.Grid {
		for k := range x.Plate {
			n := d.of(of(f.Low[i][k], f.High[i][k]))
			if i > 0 {
				n = max(n, x.Low[i-1][k])
			}
			if k > 0 {
				n = max(n, x.Low[i][k-1])
			}
			x.Low[i][k], x.High[i][k] = n, n
		}
	}
	return x
}

// P7.14, P0: a tube inside a family never has the verdict Never, whatever meters show of its currents.
func TestTubesInside(t *testing.T) {
	for _, kind := range []kind{smallKind, exactKind, greatKind} {
		count := map[int]int{}
		benches(t, 57, 2000, kind, func(d *dice, bench []api.Meter, m int) {
			f := d.family()
			tube := d.tubeIn(f)
			if !curve.Inside(f, tube) {
				t.Fatal(f, tube)
			}
			var l []api.Point
			for range d.upTo(6) {
				g, p := d.point(f)
				r, _ := curve.At(tube, g, p)
				l = append(l, api.Point{Grid: g, Plate: p, Shown: d.shown(bench, d.of(r), 8)})
			}
			v, _, e := Points(bench, 0, f, l)
			if count[v]++; e != api.OK || v == api.Never {
				t.Error(f, tube, l, v, e)
			}
		})
		if count[api.Sure] < 100 || count[api.Unsure] < 100 {
			t.Error(count)
		}
	}
}

// P7.15, P0: aged by n and then by m ticks, a range holds what it is after n + m, and what truly drifts in it.
func TestAgedTwice(t *testing.T) {
	d := dice(58)
	for range 20000 {
		x := d.drift()
		m := d.upTo(1000001 - x.ticks)
		whole, e := Aged(x.r, x.drift, x.ticks+m)
		first, e1 := Aged(x.r, x.drift, x.ticks)
		second, e2 := Aged(first, x.drift, m)
		if e2 == api.ErrRange && !isRangeIn(first, all) {
			continue
		}
		if e != api.OK || e1 != api.OK || e2 != api.OK || !isRangeIn(whole, second) {
			t.Fatal(x, m, whole, first, second)
		}
		// A value in the range that drifts by as much as it may.
		n, by := d.of(x.r), d.of(x.drift)*x.ticks
		if !isRangeIn(of(n+floor(by, 1000), n+ceil(by, 1000)), first) {
			t.Fatal(x, n, by, first)
		}
	}
}

// P7.16: what surely keeps its limits is at most what may keep them; both are not less for wider limits.
func TestKeptLimits(t *testing.T) {
	d := dice(59)
	more := 0
	for range 20000 {
		x := d.drift()
		wide := d.wider(x.limits, -4000, 4000)
		r, e1 := Keeps(x.r, x.drift, x.limits)
		w, e2 := Keeps(x.r, x.drift, wide)
		if e1 != api.OK || e2 != api.OK || r.Lo > r.Hi || w.Lo < r.Lo || w.Hi < r.Hi || r.Lo < -1 || r.Hi > 1000000 {
			t.Fatal(x, wide, r, w)
		}
		if r != w {
			more++
		}
	}
	if more < 3000 {
		t.Error(more)
	}
}

// sameChance reports whether two chances are equal, whose numbers are too great to be multiplied in a word.
func sameChance(ways, all, others, of int) bool {
	aHigh, aLow := bits.Mul64(uint64(ways), uint64(of))
	bHigh, bLow := bits.Mul64(uint64(others), uint64(all))
	return aHigh == bHigh && aLow == bLow
}

// P7.17 (samples): samples with more bad ones are the others; with more bad ones in the lot no more samples have at most so many; sample and bad can be exchanged.
func TestChances(t *testing.T) {
	fewer := 0
	for lot := 1; lot <= 50; lot += 1 + lot/10 {
		for bad := range lot + 1 {
			for sample := range lot + 1 {
				for most := range sample + 1 {
					ways, all, _ := Chance(lot, bad, sample, most)
					if most == sample && ways != all {
						t.Fatal(lot, bad, sample, ways, all)
					}
					if most < sample { // as good tubes are to bad ones, so are the others to these
						if others, _, _ := Chance(lot, lot-bad, sample, sample-most-1); ways+others != all {
							t.Fatal(lot, bad, sample, most, ways, others, all)
						}
					}
					if bad < lot {
						worse, _, _ := Chance(lot, bad+1, sample, most)
						if worse > ways {
							t.Fatal(lot, bad, sample, most, ways, worse)
						}
						if worse < ways {
							fewer++
						}
					}
					if most <= bad {
						others, of, e := Chance(lot, sample, bad, most)
						if e != api.OK || !sameChance(ways, all, others, of) {
							t.Fatal(lot, bad, sample, most, ways, all, others, of)
						}
					}
				}
			}
		}
	}
	if fewer < 10000 {
		t.Error(fewer)
	}
}

// T6, of the layers up to this one: a tube that was measured lies within the law that is narrowed by what meters showed.
func TestMeasuredTubes(t *testing.T) {
	narrower := 0
	benches(t, 60, 1500, smallKind, func(d *dice, bench []api.Meter, m int) {
		l := api.Law{Perv: d.near(20000, 60000, 20000), Gain: d.near(5000, 30000, 9000), Shift: d.near(-900, 900, 300), Full: d.near(5000, 100000, 50000), Part: d.near(600000, 1000000, 300000)}
		tube := api.Law{Perv: one(d.of(l.Perv)), Gain: one(d.of(l.Gain)), Shift: one(d.of(l.Shift)), Full: one(d.of(l.Full)), Part: one(d.of(l.Part))}
		var reads []api.Reading
		for range d.upTo(6) {
			g, p := d.from(-3000, 1000), d.from(0, 100000)
			r, _ := curve.Current(tube, g, p)
			if said, e := Together(bench, d.shown(bench, d.of(r), 4)); e == api.OK {
				reads = append(reads, api.Reading{Grid: g, Plate: p, Current: said})
			}
		}
		n, e := curve.Narrow(l, reads)
		if e != api.OK || !isRangeIn(tube.Perv, n.Perv) || !isRangeIn(tube.Gain, n.Gain) || !isRangeIn(tube.Shift, n.Shift) || !isRangeIn(tube.Full, n.Full) || !isRangeIn(tube.Part, n.Part) {
			t.Error(l, tube, reads, n, e)
		}
		if n != l {
			narrower++
		}
	})
	if narrower < 500 {
		t.Error(narrower)
	}
}
