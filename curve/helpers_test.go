package curve

import (
	"testing"

	"thermion/api"
)

// dice makes numbers for tests that are the same in each run.
type dice uint64

// upTo returns a number from 0 to n - 1.
func (d *dice) upTo(n int) int {
	*d = *d*6364136223846793005 + 1442695040888963407
	return int(uint64(*d)>>33) % n
}

// from returns a number from least to most.
func (d *dice) from(least, most int) int { return least + d.upTo(most-least+1) }

// in returns a range within r.
func (d *dice) in(r api.Range) api.Range {
	a, b := d.from(r.Lo, r.Hi), d.from(r.Lo, r.Hi)
	return of(min(a, b), max(a, b))
}

// near returns a range of at most wide + 1 numbers, from least to most.
func (d *dice) near(least, most, wide int) api.Range {
	a := d.from(least, most)
	return of(a, min(most, a+d.upTo(wide+1)))
}

// law returns a valid law, whose ranges are narrow, or as wide as can be.
func (d *dice) law() api.Law {
	wide := []int{0, 3, 1000, api.Million}[d.upTo(4)]
	gain := []int{3, 100, 40000, api.MaxGain}[d.upTo(4)]
	return api.Law{
		Perv:  d.near(0, api.MaxPerv, wide),
		Gain:  d.near(1, gain, wide),
		Shift: d.near(-3000, 3000, wide),
		Full:  d.near(d.upTo(2)*500000, api.MaxCurrent, wide),
		Part:  d.near(d.upTo(2)*500000, api.Million, wide),
	}
}

// lawIn returns a law within l.
func (d *dice) lawIn(l api.Law) api.Law {
	return api.Law{Perv: d.in(l.Perv), Gain: d.in(l.Gain), Shift: d.in(l.Shift), Full: d.in(l.Full), Part: d.in(l.Part)}
}

// alone returns the law of numbers alone within l.
func (d *dice) alone(l api.Law) api.Law {
	l = d.lawIn(l)
	return api.Law{Perv: one(l.Perv.Lo), Gain: one(l.Gain.Hi), Shift: one(l.Shift.Lo), Full: one(l.Full.Hi), Part: one(l.Part.Lo)}
}

// volts returns right voltages, which are often such that the drive is neither 0 nor MaxDrive.
func (d *dice) volts() (grid, plate int) {
	if d.upTo(3) == 0 {
		return d.from(-api.MaxVolt, api.MaxVolt), d.from(0, api.MaxVolt)
	}
	return d.from(-9000, 9000), d.from(0, 9000)
}

// lines returns ascending lines from least to most.
func (d *dice) lines(count, least, most int) []int {
	step := (most - least) / count
	var l []int
	for i := range count {
		l = append(l, least+i*step+d.upTo(step))
	}
	return l
}

// family returns a valid family, of at most count lines in each direction, whose currents rise by less than step from place to place, and whose High is above Low by at least gap.
func (d *dice) family(count, most, step, gap int) api.Family {
	f := linesOf(d.lines(1+d.upTo(count), -most, most), d.lines(1+d.upTo(count), 0, most))
	for i := range f.Grid {
		for k := range f.Plate {
			f.Low[i][k] = before(f.Low, i, k) + d.upTo(step)
			f.High[i][k] = max(f.Low[i][k]+gap, before(f.High, i, k)+d.upTo(step))
		}
	}
	return f
}

// before returns the greatest number that stands before a place of a table that rises (0: there is none).
func before(t [][]int, i, k int) int {
	n := 0
	if i > 0 {
		n = t[i-1][k]
	}
	if k > 0 {
		n = max(n, t[i][k-1])
	}
	return n
}

// familyIn returns a family of the same lines inside f.
func (d *dice) familyIn(f api.Family) api.Family {
	in := linesOf(f.Grid, f.Plate)
	for i := range f.Grid {
		for k := range f.Plate {
			in.Low[i][k] = d.from(max(f.Low[i][k], before(in.Low, i, k)), f.High[i][k])
		}
	}
	for i := range f.Grid {
		for k := range f.Plate {
			in.High[i][k] = d.from(max(in.Low[i][k], before(in.High, i, k)), f.High[i][k])
		}
	}
	return in
}

// tubeIn returns a tube of the same lines inside f.
func (d *dice) tubeIn(f api.Family) api.Family {
	tube := d.familyIn(f)
	tube.High = copiedTable(tube.Low)
	return tube
}

// families calls f with valid families of many sizes.
func families(t *testing.T, seed dice, f func(d *dice, f api.Family)) {
	t.Helper()
	d := &seed
	for i := range 400 {
		most := []int{20, 300, 100000, api.MaxVolt}[i%4]
		made := d.family(1+i%6, most, []int{2, 9, 1000, 12000}[i/4%4], i%3)
		if i%100 == 99 {
			made = d.family(api.MaxLines, api.MaxVolt, 9000, i%2)
		}
		f(d, made)
		if t.Failed() {
			t.Fatal("case ", i, ": ", made)
		}
	}
}

// of makes a range, one that of one number.
func of(lo, hi int) api.Range { return api.Range{Lo: lo, Hi: hi} }
func one(n int) api.Range     { return of(n, n) }

// lawL and lawM are the laws of the chapter's examples, familyF is its family.
func lawL() api.Law {
	return api.Law{Perv: one(60000), Gain: one(20000), Shift: one(0), Full: one(100000), Part: one(api.Million)}
}

func lawM() api.Law {
	l := lawL()
	l.Gain = of(19000, 21000)
	return l
}

func familyF() api.Family {
	return api.Family{Grid: []int{-2000, 0}, Plate: []int{0, 100000}, Low: [][]int{{0, 10}, {20, 60}}, High: [][]int{{5, 10}, {20, 80}}}
}

// changed returns a law, or a family, that was changed.
func changed[T any](x T, change func(x *T)) T {
	change(&x)
	return x
}

// isIn reports whether a range lies within another one.
func isIn(a, b api.Range) bool { return b.Lo <= a.Lo && a.Hi <= b.Hi }

// isLawIn reports whether a law lies within another one.
func isLawIn(a, b api.Law) bool {
	return isIn(a.Perv, b.Perv) && isIn(a.Gain, b.Gain) && isIn(a.Shift, b.Shift) && isIn(a.Full, b.Full) && isIn(a.Part, b.Part)
}

// ran returns the result of Current, which must not be an error.
func ran(t *testing.T, l api.Law, grid, plate int) api.Range {
	t.Helper()
	r, e := Current(l, grid, plate)
	if e != api.OK {
		t.Fatal(l, grid, plate, e)
	}
	return r
}

// looked returns the result of At, which must not be an error.
func looked(t *testing.T, f api.Family, grid, plate int) api.Range {
	t.Helper()
	r, e := At(f, grid, plate)
	if e != api.OK {
		t.Fatal(f, grid, plate, e)
	}
	return r
}

// made returns the result of Of, which must not be an error.
func made(t *testing.T, l api.Law, grid, plate []int) api.Family {
	t.Helper()
	f, e := Of(l, grid, plate)
	if e != api.OK {
		t.Fatal(l, grid, plate, e)
	}
	return f
}

// down and up divide by a number above 0, rounded towards one side; also below 0.
func down(n, by int) int {
	q := n / by
	for q*by > n {
		q--
	}
	return q
}

func up(n, by int) int { return -down(-n, by) }

// none is the range that comes with errors.
var none api.Range
