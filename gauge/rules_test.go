package gauge

import (
	"math"
	"slices"
	"testing"

	"thermion/api"
	"thermion/curve"
)

// odd are numbers that arguments may have, too.
var odd = []int{math.MinInt, math.MinInt + 15, -1000000001, -1000000000, -1000001, -17, -1, 0, 1, 2, 10, 50, 51, 499999, 1000000, 1000001, 2000001, 1000000000, 1000000001, 1 << 42, math.MaxInt - 15, math.MaxInt}

// oddBenches are benches that are hardly any.
func oddBenches() [][]api.Meter {
	l := [][]api.Meter{nil, {}, {{}}, benchB(), benchX(), make([]api.Meter, 5000), row(12, meter(of(500000, 2000000), of(-1000000, 1000000), 1000000, -1)), row(12, meter(one(2000000), one(-1000000), 1, -1)), row(12, meter(one(500000), one(1000000), 7, -1))}
	for _, n := range odd {
		for _, change := range []func(x *api.Meter){
			func(x *api.Meter) { x.Gain.Lo = n }, func(x *api.Meter) { x.Gain.Hi = n }, func(x *api.Meter) { x.Gain = one(n) }, func(x *api.Meter) { x.Off.Lo = n }, func(x *api.Meter) { x.Off.Hi = n }, func(x *api.Meter) { x.Off = one(n) }, func(x *api.Meter) { x.Step = n }, func(x *api.Meter) { x.By = n }, func(x *api.Meter) { x.Due = n },
		} {
			for m := range 2 {
				b := benchX()
				change(&b[m])
				l = append(l, b)
			}
		}
	}
	return l
}

// is reports whether a result comes without an error, or is none.
func is[T comparable](x T, e api.Errno) bool {
	var zero T
	return e == api.OK || x == zero
}

// P1, R3, R5: with whatever benches, meters, numbers and limits, each function ends, does not panic, and has nothing but an error with an error.
func TestAnyBenches(t *testing.T) {
	for i, b := range oddBenches() {
		bad := Check(b)
		for k, n := range odd {
			x := odd[(i+k)%len(odd)]
			for _, m := range []int{0, 1, 2, n} {
				l := Chain(b, m)
				r1, e1 := True(b, m, x)
				r2, e2 := Accept(b, m, of(x, n))
				r3, e3 := Accept(b, m, of(n, math.MaxInt))
				r4, e4 := Together(b, []api.Shown{showed(0, 0), showed(m, x)})
				v5, p5, e5 := Sheet(b, 5, []api.Range{of(n, x), of(0, n)}, [][]api.Shown{nil, {showed(m, x)}})
				v6, p6, e6 := Points(b, n, familyF(), []api.Point{{Grid: n, Plate: x, Shown: []api.Shown{showed(m, x)}}})
				if bad != api.OK && (len(l) > 0 || slices.ContainsFunc([]api.Errno{e1, e2, e3, e4, e5, e6}, func(e api.Errno) bool { return e != bad })) {
					t.Error(i, b, m, x, l, e1, e2, e3, e4, e5, e6)
				}
				if !is(r1, e1) || !is(r2, e2) || !is(r3, e3) || !is(r4, e4) || !is(v5, e5) || !is(p5, e5) || !is(v6, e6) || !is(p6, e6) {
					t.Error(i, b, m, x, r1, r2, r3, r4, v5, p5, v6, p6)
				}
			}
			if len(b) > 0 {
				if r := Makes(b[0], n); r.Lo > r.Hi {
					t.Error(i, b, n, r)
				}
			}
		}
	}
}

// P1, R3, R5: with whatever other arguments, each function ends, does not panic, and has nothing but an error with an error.
func TestAnyThings(t *testing.T) {
	b := benchX()
	for i, n := range odd {
		for k, m := range odd {
			x, y := odd[(i+k)%len(odd)], odd[(7*i+3*k)%len(odd)]
			if v := Verdict(of(n, m), of(x, y)); (v == 0) != (n > m || x > y) || v < 0 || v > 3 {
				t.Error(n, m, x, y, v)
			}
			r, e1 := Aged(of(n, m), of(x, y), 5)
			s, e2 := Aged(of(0, 5), of(n, m), x)
			u, e3 := Keeps(of(n, m), of(x, y), of(y, x))
			v, e4 := Keeps(of(0, 5), of(0, 1), of(n, m))
			ways, all, e5 := Chance(n, m, x, y)
			p, e6 := Plan(50, n, m, x, y)
			q, e7 := Plan(n, m, x, y, 1)
			if !is(r, e1) || !is(s, e2) || !is(u, e3) || !is(v, e4) || !is(ways, e5) || !is(all, e5) || !is(p, e6) || !is(q, e7) {
				t.Error(n, m, x, y, r, s, u, v, ways, all, p, q)
			}
			for _, l := range [][]api.Shown{{showed(n, m)}, {showed(0, n), showed(1, m)}, slices.Repeat([]api.Shown{showed(n, m)}, 5000)} {
				r, e1 := Together(b, l)
				v, place, e2 := Sheet(b, x, []api.Range{of(y, n)}, [][]api.Shown{l})
				w, at, e3 := Points(b, x, familyF(), []api.Point{{Grid: y, Plate: n, Shown: l}})
				if !is(r, e1) || !is(v, e2) || !is(place, e2) || !is(w, e3) || !is(at, e3) {
					t.Error(l, r, v, place, w, at)
				}
			}
		}
		for _, f := range []api.Family{{}, {Grid: []int{n}, Plate: []int{0}, Low: [][]int{{0}}, High: [][]int{{n}}}, {Grid: make([]int, 5000)}, {Grid: []int{0, n}, Plate: []int{n}, Low: [][]int{{0}, {n}}, High: [][]int{{n}}}} {
			v, place, e := Points(b, 0, f, nil)
			if bad := curve.Check(f); e != bad || bad == api.OK && (v != api.Sure || place != -1) || !is(v, e) || !is(place, e) {
				t.Error(f, v, place, e)
			}
		}
	}
	if _, _, e := Sheet(b, 0, make([]api.Range, 5000), make([][]api.Shown, 5000)); e != api.ErrFull {
		t.Error(e)
	}
	if _, _, e := Points(b, 0, familyF(), make([]api.Point, 5000)); e != api.ErrFull {
		t.Error(e)
	}
}

// P1: the greatest work ends soon.
func TestGreatestWork(t *testing.T) {
	b := row(12, meter(of(1999999, 2000000), of(-1000000, 1000000), 1, -1))
	var limits []api.Range
	var l [][]api.Shown
	for range 20 {
		limits, l = append(limits, one(-1)), append(l, slices.Repeat([]api.Shown{showed(11, 0)}, 10))
	}
	if v, place, e := Sheet(b, 0, limits, l); v != api.Unsure || place != 0 || e != api.OK {
		t.Error(v, place, e)
	}
	if r, e := Accept(b, 11, of(-2000000, 2000000)); e != api.OK || r.Lo >= 0 || r.Hi <= 0 {
		t.Error(r, e)
	}
	// A lot of 50 in which one tube more may be bad: all of them have to be looked at.
	if p, e := Plan(50, 24, 25, 10000, 10000); p != (api.Sampling{Sample: 50, Most: 24}) || e != api.OK {
		t.Error(p, e)
	}
}

// copyOf returns a sheet with parts of its own.
func copyOf(s sheet) sheet {
	s.bench, s.limits, s.l = slices.Clone(s.bench), slices.Clone(s.limits), slices.Clone(s.l)
	for i, l := range s.l {
		s.l[i] = slices.Clone(l)
	}
	return s
}

// sameSheet reports whether two sheets are equal.
func sameSheet(a, b sheet) bool {
	return slices.Equal(a.bench, b.bench) && a.tick == b.tick && slices.Equal(a.limits, b.limits) && slices.EqualFunc(a.l, b.l, slices.Equal[[]api.Shown])
}

// R4, R6: arguments are not changed; a result is apart from others, and a call depends on its arguments alone.
func TestArgumentsAreKept(t *testing.T) {
	benches(t, 70, 500, smallKind, func(d *dice, bench []api.Meter, m int) {
		s := d.sheet(bench)
		was, f := copyOf(s), d.family()
		wasFamily := curve.Copy(f)
		var l []api.Point
		for _, x := range s.l {
			l = append(l, api.Point{Shown: x})
		}
		Check(bench)
		True(bench, m, 0)
		Accept(bench, m, d.near(-50, 50, 100))
		a := Chain(bench, m)
		for i := range a {
			a[i] = 777
		}
		for range 2 {
			v, place, _ := Sheet(bench, 0, s.limits, s.l)
			w, at := plainSheet(s)
			if v != w || place != at {
				t.Error(s, v, place, w, at)
			}
		}
		for _, x := range s.l {
			Together(bench, x)
		}
		Points(bench, 0, f, l)
		if !sameSheet(s, was) || !curve.Same(f, wasFamily) || !slices.Equal(Chain(bench, m), plainChain(bench, m)) {
			t.Error(s, was, f, wasFamily)
		}
		for i, p := range l {
			if !slices.Equal(p.Shown, was.l[i]) {
				t.Error(l, was)
			}
		}
	})
}
