package gauge

import (
	"slices"
	"testing"

	"thermion/api"
)

// dice makes numbers for tests that are the same in each run.
type dice uint64

// upTo returns a number from 0 to n - 1.
func (d *dice) upTo(n int) int {
	*d += 0x9e3779b97f4a7c15
	x := uint64(*d)
	x = (x ^ x>>30) * 0xbf58476d1ce4e5b9
	x = (x ^ x>>27) * 0x94d049bb133111eb
	return int((x ^ x>>31) % uint64(n))
}

// from returns a number from least to most.
func (d *dice) from(least, most int) int { return least + d.upTo(most-least+1) }

// any returns a range of numbers from least to most, at times of one number.
func (d *dice) any(least, most int) api.Range {
	a, b := d.from(least, most), d.from(least, most)
	if d.upTo(4) == 0 {
		b = a
	}
	return of(min(a, b), max(a, b))
}

// near returns a range of at most wide + 1 numbers from least to most.
func (d *dice) near(least, most, wide int) api.Range {
	a := d.from(least, most)
	return of(a, min(most, a+d.upTo(wide+1)))
}

// in returns a range within r.
func (d *dice) in(r api.Range) api.Range { return d.any(r.Lo, r.Hi) }

// wider returns a range that r lies within, of numbers from least to most.
func (d *dice) wider(r api.Range, least, most int) api.Range {
	by := []int{0, 1, 20, most}[d.upTo(4)]
	return of(d.from(max(least, r.Lo-by), r.Lo), d.from(r.Hi, min(most, r.Hi+by)))
}

// of a range returns one of its numbers, often its first or last one.
func (d *dice) of(r api.Range) int { return []int{r.Lo, r.Hi, d.from(r.Lo, r.Hi)}[d.upTo(3)] }

// kind is what benches are like: how many meters they have at most, how wide gains are, how great and how wide offsets, and how great steps.
type kind struct{ meters, gain, off, wide, step int }

// The kinds of benches: all that is seen at small ones is easily found; exact ones leave gaps.
var (
	smallKind = kind{3, 20000, 3, 2, 9}
	exactKind = kind{5, 0, 9, 0, 4}
	greatKind = kind{12, 1500000, api.MaxOff, 2 * api.MaxOff, api.MaxStep}
)

// meter returns a valid meter, without a By.
func (d *dice) meter(k kind) api.Meter {
	g := []api.Range{d.near(api.MinGain, api.MaxGains, k.gain), d.near(990000, 1010000, k.gain), one(api.Million), one(api.MinGain), one(api.MaxGains)}[d.upTo(5)]
	return api.Meter{Gain: g, Off: d.near(-k.off, k.off, k.wide), Step: []int{1, d.from(1, k.step)}[d.upTo(2)], Due: d.upTo(1000)}
}

// bench returns a valid bench of a kind, with at least one meter.
func (d *dice) bench(k kind) []api.Meter {
	var order []int // in which meters were compared
	bench := make([]api.Meter, d.from(1, k.meters))
	for m := range bench {
		order = slices.Insert(order, d.upTo(m+1), m)
	}
	for i, m := range order {
		bench[m] = d.meter(k)
		bench[m].By = -1
		if d.upTo(8) > 0 && i > 0 {
			bench[m].By = order[d.from(max(0, i-2), i-1)]
		}
	}
	return bench
}

// benches calls f with valid benches of a kind, and with a number of one of their meters.
func benches(t *testing.T, seed dice, count int, k kind, f func(d *dice, bench []api.Meter, m int)) {
	t.Helper()
	d := &seed
	for i := range count {
		bench := d.bench(k)
		if e := Check(bench); e != api.OK {
			t.Fatal(bench, e)
		}
		m := d.upTo(len(bench))
		f(d, bench, m)
		if t.Failed() {
			t.Fatal("case ", i, ": ", bench, m)
		}
	}
}

// number returns a number that a meter can show, as near to another one as can be, or next to that.
func (d *dice) number(x api.Meter, near int) int {
	n := floor(min(max(near, -api.MaxShow), api.MaxShow), x.Step) + d.upTo(2)
	return min(max(n, ceil(-api.MaxShow, x.Step)), floor(api.MaxShow, x.Step)) * x.Step
}

// sees returns something as which a value may be seen at a meter.
func (d *dice) sees(bench []api.Meter, m, x int) int {
	if bench[m].By >= 0 {
		x = d.sees(bench, bench[m].By, x)
	}
	return d.of(plainMakes(bench[m], x))
}

// shows returns a number that a meter may show of a value, and whether there is one that is not too great.
func (d *dice) shows(bench []api.Meter, m, x int) (number int, is bool) {
	y, step := d.sees(bench, m, x), bench[m].Step
	number = floor(2*y+step, 2*step) * step // the nearest multiple, the greater one of two
	if 2*(number-y) == step && d.upTo(2) == 0 {
		number -= step
	}
	return number, number >= -1000000000 && number <= 1000000000
}

// shown returns numbers that meters may show of a value, at most so many.
func (d *dice) shown(bench []api.Meter, x, most int) []api.Shown {
	var l []api.Shown
	for range d.upTo(most + 1) {
		m := d.upTo(len(bench))
		if n, is := d.shows(bench, m, x); is {
			l = append(l, api.Shown{Meter: m, Number: n})
		}
	}
	return l
}

// floor and ceil divide by a number above 0, rounded towards one side.
func floor(a, b int) int {
	q := a / b
	for q*b > a {
		q--
	}
	return q
}

func ceil(a, b int) int {
	q := a / b
	for q*b < a {
		q++
	}
	return q
}

// plainMakes follows the chapter, for each sign by itself.
func plainMakes(x api.Meter, n int) api.Range {
	if n < 0 {
		return of(floor(n*x.Gain.Hi, 1000000)+x.Off.Lo, ceil(n*x.Gain.Lo, 1000000)+x.Off.Hi)
	}
	return of(floor(n*x.Gain.Lo, 1000000)+x.Off.Lo, ceil(n*x.Gain.Hi, 1000000)+x.Off.Hi)
}

// plainChain follows By to the standard.
func plainChain(bench []api.Meter, m int) []int {
	if m == -1 {
		return nil
	}
	return append([]int{m}, plainChain(bench, bench[m].By)...)
}

// plainSeen returns all numbers as which a value may be seen at a meter, ascending. (What is made of a greater number begins and ends no lower.)
func plainSeen(bench []api.Meter, m, x int) []int {
	if m == -1 {
		return []int{x}
	}
	var l []int
	for _, n := range plainSeen(bench, bench[m].By, x) {
		r := plainMakes(bench[m], n)
		if len(l) > 0 {
			r.Lo = max(r.Lo, l[len(l)-1]+1)
		}
		for y := r.Lo; y <= r.Hi; y++ {
			l = append(l, y)
		}
	}
	return l
}

// plainShows reports whether a meter with a step may show a number of a value that is seen as one of some numbers.
func plainShows(seen []int, step, number int) bool {
	if number%step != 0 {
		return false
	}
	return slices.ContainsFunc(seen, func(y int) bool { return 2*max(number-y, y-number) <= step })
}

// plainEnds returns the least and the greatest number as which a value may be seen at a meter.
func plainEnds(bench []api.Meter, m, x int) api.Range {
	r := one(x)
	for _, n := range slices.Backward(plainChain(bench, m)) {
		r = of(plainMakes(bench[n], r.Lo).Lo, plainMakes(bench[n], r.Hi).Hi)
	}
	return r
}

// plainVerdict counts the numbers of a range that lie in limits.
func plainVerdict(r, limits api.Range) int {
	in := 0
	for n := r.Lo; n <= r.Hi; n++ {
		if limits.Lo <= n && n <= limits.Hi {
			in++
		}
	}
	switch {
	case r.Lo > r.Hi || limits.Lo > limits.Hi:
		return 0
	case in == r.Hi-r.Lo+1:
		return api.Sure
	case in == 0:
		return api.Never
	}
	return api.Unsure
}

// of makes a range, one that of one number.
func of(lo, hi int) api.Range { return api.Range{Lo: lo, Hi: hi} }
func one(n int) api.Range     { return of(n, n) }

// none is the range that comes with errors; all are all values.
var (
	none api.Range
	all  = of(-1000000000, 1000000000)
)

// isRangeIn reports whether a lies within b.
func isRangeIn(a, b api.Range) bool { return b.Lo <= a.Lo && a.Hi <= b.Hi }

// benchB is the bench of the chapter's examples.
func benchB() []api.Meter {
	return []api.Meter{{Gain: one(1000000), Step: 10, By: -1, Due: 100}, {Gain: of(990000, 1010000), Off: of(-5, 5), Step: 1, By: 0, Due: 50}}
}

// benchX has three meters, the last of which was compared with the first, and this with the second one.
func benchX() []api.Meter {
	return []api.Meter{meter(of(990000, 1010000), of(-5, 5), 1, 1), meter(one(1000000), none, 10, -1), meter(one(2000000), none, 2, 0)}
}

// meter makes a meter that may be used for long.
func meter(gain, off api.Range, step, by int) api.Meter {
	return api.Meter{Gain: gain, Off: off, Step: step, By: by, Due: 1000000000}
}

// row makes a bench of meters that are all alike, each of which was compared with the one before it.
func row(count int, x api.Meter) []api.Meter {
	var l []api.Meter
	for m := range count {
		x.By = m - 1
		l = append(l, x)
	}
	return l
}

// showed makes a number that a meter showed.
func showed(m, number int) api.Shown { return api.Shown{Meter: m, Number: number} }

// trueOf returns the result of True, which must not be an error.
func trueOf(t *testing.T, bench []api.Meter, m, number int) api.Range {
	t.Helper()
	r, e := True(bench, m, number)
	if e != api.OK || r.Lo > r.Hi || !isRangeIn(r, all) {
		t.Fatal(bench, m, number, r, e)
	}
	return r
}

// surely reports whether the true values for a number lie within limits, and whether there are any.
func surely(t *testing.T, bench []api.Meter, m, number int, limits api.Range) (sure, some bool) {
	t.Helper()
	r, e := True(bench, m, number)
	if e != api.OK && e != api.ErrClash {
		t.Fatal(bench, m, number, e)
	}
	return e == api.OK && isRangeIn(r, limits), e == api.OK
}

// changed returns a thing that was changed.
func changed[T any](x T, change func(x *T)) T {
	change(&x)
	return x
}

// fault is a change that makes a thing wrong, and the error that it has then.
type fault[T any] struct {
	change func(x *T)
	want   api.Errno
}

// inOrder demands that each fault of a right thing is found, and the first one of two.
func inOrder[T any](t *testing.T, right func() T, faults []fault[T], check func(x T) api.Errno) {
	t.Helper()
	if e := check(right()); e != api.OK {
		t.Error(e)
	}
	for i, a := range faults {
		if e := check(changed(right(), a.change)); e != a.want {
			t.Error(i, e)
		}
		for k, b := range faults[i+1:] {
			if e := check(changed(changed(right(), b.change), a.change)); e != a.want {
				t.Error(i, i+1+k, e)
			}
		}
	}
}
