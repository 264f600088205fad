package field

import (
	"slices"
	"testing"

	"thermion/api"
)

// P1.7: Solve's bounds are good, in their order, and between the least and the greatest voltage.
func TestBetween(t *testing.T) {
	cases(t, 11, func(p api.Plan, volts []int, sweeps int) {
		f := solved(t, p, volts, sweeps)
		if !Good(p, volts, f.Low, f.High) {
			t.Error("not good")
		}
		var on []int
		for _, e := range Electrodes(p) {
			on = append(on, volts[e-1])
		}
		for i := range p.Cells {
			if f.Low[i] > f.High[i] || f.Low[i] < slices.Min(on) || f.High[i] > slices.Max(on) {
				t.Error(i, f)
			}
		}
	})
}

// exactly solves the equations of the potential in whole numbers: the potential of a cell is its number of the list, divided by of (above 0). It removes one cell after the other without fractions (each division is one that leaves no remainder).
func exactly(p api.Plan, volts []int) (l []int, of int) {
	n := len(p.Cells)
	rows := make([][]int, n)
	for i, e := range p.Cells {
		rows[i] = make([]int, n+1)
		if e != 0 {
			rows[i][i], rows[i][n] = 1, volts[e-1]
			continue
		}
		for k := range p.Cells {
			w := apart(p, i, k)
			rows[i][i] += w
			rows[i][k] -= w
		}
	}
	of = 1
	for i := range rows {
		for k := range rows {
			if k == i {
				continue
			}
			by := rows[k][i]
			for c := range rows[k] {
				rows[k][c] = (rows[k][c]*rows[i][i] - by*rows[i][c]) / of
			}
		}
		of = rows[i][i]
	}
	for i := range rows {
		l = append(l, rows[i][n])
	}
	return l, of
}

// tiny calls f with plans of at most 5 vacuum cells, so that the exact numbers stay small.
func tiny(t *testing.T, seed dice, f func(d *dice, p api.Plan, volts []int)) {
	t.Helper()
	d := &seed
	for tried := 0; tried < 600; {
		p := d.plan(3, 3, 2)
		empty := 0
		for _, c := range p.Cells {
			if c == 0 {
				empty++
			}
		}
		if empty < 1 || empty > 5 {
			continue
		}
		tried++
		f(d, p, d.volts(p, []int{4, 30, 1000}[tried%3]))
		if t.Failed() {
			t.Fatal(p)
		}
	}
}

// The exact numbers that the next tests go by do solve the equations.
func TestExactly(t *testing.T) {
	tiny(t, 12, func(_ *dice, p api.Plan, volts []int) {
		l, of := exactly(p, volts)
		if of <= 0 {
			t.Error(of)
		}
		for i, e := range p.Cells {
			if e != 0 {
				if l[i] != of*volts[e-1] {
					t.Error(i, l, of)
				}
				continue
			}
			rest := 0
			for k := range p.Cells {
				rest += apart(p, i, k) * (l[k] - l[i])
			}
			if rest != 0 {
				t.Error(i, l, of)
			}
		}
	})
}

// P1.8: the potential lies between Solve's bounds, and each true charge in its range.
func TestExact(t *testing.T) {
	tiny(t, 13, func(_ *dice, p api.Plan, volts []int) {
		l, of := exactly(p, volts)
		for _, sweeps := range []int{0, 1, 2, 5, api.MaxSweeps} {
			f := solved(t, p, volts, sweeps)
			for i := range p.Cells {
				if f.Low[i]*of > l[i] || l[i] > f.High[i]*of {
					t.Error(i, f, l, of)
				}
			}
			for _, e := range Electrodes(p) {
				q := 0
				for i, c := range p.Cells {
					for k := range p.Cells {
						if c == e && p.Cells[k] != e {
							q += apart(p, i, k) * (l[i] - l[k])
						}
					}
				}
				if r, err := Charge(p, volts, sweeps, e); err != api.OK || r.Lo*of > q || q > r.Hi*of {
					t.Error(e, r, q, of)
				}
			}
		}
	})
}

// P1.8: the potential lies between all bounds that are good, however they were found.
func TestExactGood(t *testing.T) {
	found := 0
	tiny(t, 14, func(d *dice, p api.Plan, volts []int) {
		l, of := exactly(p, volts)
		low, high := make([]int, len(l)), make([]int, len(l))
		for range 50 {
			for i, n := range l {
				low[i] = roundDown(n, of) + 1 - d.upTo(4)
				high[i] = roundUp(n, of) - 1 + d.upTo(4)
			}
			if !Good(p, volts, low, high) {
				continue
			}
			found++
			for i, n := range l {
				if low[i]*of > n || n > high[i]*of {
					t.Error(low, high, l, of)
				}
			}
		}
	})
	if found < 100 {
		t.Error("too few good bounds", found)
	}
}

// P1.9: more sweeps never make a low less or a high greater.
func TestMoreSweeps(t *testing.T) {
	cases(t, 15, func(p api.Plan, volts []int, _ int) {
		before := solved(t, p, volts, 0)
		for _, sweeps := range []int{1, 2, 3, 5, 20, 199, 200} {
			f := solved(t, p, volts, sweeps)
			for i := range p.Cells {
				if f.Low[i] < before.Low[i] || f.High[i] > before.High[i] {
					t.Error(sweeps, f, before)
				}
			}
			before = f
		}
	})
}

// P1.9, T1: with more sweeps an amplification lies within what it was.
func TestMoreSweepsAmplify(t *testing.T) {
	seen := 0
	cases(t, 16, func(p api.Plan, _ []int, _ int) {
		l := Electrodes(p)
		if len(l) < 3 {
			return
		}
		var before api.Range
		is := false
		for _, sweeps := range []int{0, 1, 2, 3, 5, 20, 200} {
			r, e := Amplification(p, sweeps, l[0], l[1], l[2])
			if is && (e != api.OK || r.Lo < before.Lo || r.Hi > before.Hi) {
				t.Error(sweeps, r, before, e)
			}
			if e == api.OK {
				before, is = r, true
				seen++
			}
		}
	})
	if seen < 100 {
		t.Error("too few amplifications", seen)
	}
}

// P1.10: bounds for two lists of voltages go together with those for their sums.
func TestSums(t *testing.T) {
	d := dice(17)
	cases(t, 18, func(p api.Plan, volts []int, sweeps int) {
		for i := range volts {
			volts[i] /= 2
		}
		others := d.volts(p, api.MaxVolt/2)
		sums := make([]int, len(volts))
		for i := range sums {
			sums[i] = volts[i] + others[i]
		}
		a, b, s := solved(t, p, volts, sweeps), solved(t, p, others, sweeps), solved(t, p, sums, sweeps)
		for i := range p.Cells {
			if a.Low[i]+b.Low[i] > s.High[i] || a.High[i]+b.High[i] < s.Low[i] {
				t.Error(i, a, b, s)
			}
		}
	})
}

// P1.11: a mirrored plan has bounds that have numbers in common with the mirrored ones.
func TestMirrors(t *testing.T) {
	cases(t, 19, func(p api.Plan, volts []int, sweeps int) {
		f := solved(t, p, volts, sweeps)
		mirror := func(to func(cell int) int) {
			q := Copy(p)
			for i, c := range p.Cells {
				q.Cells[to(i)] = c
			}
			g := solved(t, q, volts, sweeps)
			for i := range p.Cells {
				if !common(api.Range{Lo: f.Low[i], Hi: f.High[i]}, api.Range{Lo: g.Low[to(i)], Hi: g.High[to(i)]}) {
					t.Error(i, f, g)
				}
			}
		}
		mirror(func(cell int) int { return (p.High-1-cell/p.Wide)*p.Wide + cell%p.Wide })
		if !p.Round {
			mirror(func(cell int) int { return cell - cell%p.Wide + p.Wide - 1 - cell%p.Wide })
		}
	})
}

// P1.12: the charges of all electrodes are together 0.
func TestChargesTogether(t *testing.T) {
	cases(t, 20, func(p api.Plan, volts []int, sweeps int) {
		var sum api.Range
		for _, e := range Electrodes(p) {
			r, err := Charge(p, volts, sweeps, e)
			if err != api.OK || r.Lo > r.Hi {
				t.Error(r, err)
			}
			sum.Lo += r.Lo
			sum.Hi += r.Hi
		}
		if sum.Lo > 0 || sum.Hi < 0 {
			t.Error(sum)
		}
	})
}

// P1.13: the influence of a on k and that of k on a have a number in common.
func TestThereAndBackAgain(t *testing.T) {
	cases(t, 21, func(p api.Plan, _ []int, sweeps int) {
		l := Electrodes(p)
		for i, a := range l {
			for _, k := range l[:i] {
				if r, back := influenced(t, p, sweeps, a, k), influenced(t, p, sweeps, k, a); !common(r, back) {
					t.Error(a, k, r, back)
				}
			}
		}
	})
}

// P1.14: a vacuum cell that becomes part of an electrode without voltage does not add to the influence of others on others.
func TestScreens(t *testing.T) {
	d := dice(22)
	screened := 0
	cases(t, 23, func(p api.Plan, _ []int, sweeps int) {
		l := Electrodes(p)
		cell := d.upTo(len(p.Cells))
		if len(l) < 3 || p.Cells[cell] != 0 {
			return
		}
		a, k, screen := l[0], l[1], l[2]
		q := Copy(p)
		q.Cells[cell] = screen
		before, after := influenced(t, p, sweeps, a, k), influenced(t, q, sweeps, a, k)
		if after.Lo > before.Hi {
			t.Error(cell, before, after)
		}
		screened++
	})
	if screened < 50 {
		t.Error("too few screens", screened)
	}
}

// P1.17: with the other sign of all voltages low is minus high, and the other way round.
func TestSigns(t *testing.T) {
	cases(t, 24, func(p api.Plan, volts []int, sweeps int) {
		turned := make([]int, len(volts))
		for i, v := range volts {
			turned[i] = -v
		}
		f, g := solved(t, p, volts, sweeps), solved(t, p, turned, sweeps)
		if f.Sweeps != g.Sweeps || f.Still != g.Still {
			t.Error(f, g)
		}
		for i := range p.Cells {
			if f.Low[i] != -g.High[i] || f.High[i] != -g.Low[i] {
				t.Error(i, f, g)
			}
		}
	})
}

// P1.17: if all voltages are equal, so are all bounds, after any number of sweeps.
func TestEqualVoltages(t *testing.T) {
	cases(t, 25, func(p api.Plan, volts []int, sweeps int) {
		v := volts[0]
		for i := range volts {
			volts[i] = v
		}
		f := solved(t, p, volts, sweeps)
		for i := range p.Cells {
			if f.Low[i] != v || f.High[i] != v {
				t.Error(i, f)
			}
		}
		if f.Sweeps != min(sweeps, 1) || f.Still != (sweeps > 0) {
			t.Error(f)
		}
	})
}
