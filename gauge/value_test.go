package gauge

import (
	"slices"
	"testing"

	"thermion/api"
)

// P7.2: the chapter's examples, also of Accept and Verdict.
func TestExamplesOfValues(t *testing.T) {
	for i, c := range []struct {
		m, number int
		want      api.Range
		e         api.Errno
	}{{0, 100, of(95, 105), api.OK}, {1, 1000, of(985, 1016), api.OK}, {0, 105, none, api.ErrForm}, {2, 0, none, api.ErrMissing}} {
		if r, e := True(benchB(), c.m, c.number); r != c.want || e != c.e {
			t.Error(i, r, e)
		}
	}
	for i, c := range []struct {
		limits api.Range
		want   int
	}{{of(95, 105), 1}, {of(96, 105), 3}, {of(106, 200), 2}} {
		if v := Verdict(of(95, 105), c.limits); v != c.want {
			t.Error(i, v)
		}
	}
	for i, c := range []struct {
		m      int
		limits api.Range
		want   api.Range
		e      api.Errno
	}{{0, of(95, 130), of(100, 120), api.OK}, {0, of(96, 104), none, api.ErrState}, {1, of(985, 1016), one(1000), api.OK}} {
		if r, e := Accept(benchB(), c.m, c.limits); r != c.want || e != c.e {
			t.Error(i, r, e)
		}
	}
}

// P7.2: True's errors in their order.
func TestErrorsOfTrue(t *testing.T) {
	type args struct {
		bench     []api.Meter
		m, number int
	}
	inOrder(t, func() args { return args{benchX(), 2, 8} }, []fault[args]{
		{func(a *args) { a.bench[1].Step = 0 }, api.ErrRange}, {func(a *args) { a.bench[1].By = 1 }, api.ErrLoose},
		{func(a *args) { a.m = 3 }, api.ErrMissing}, {func(a *args) { a.m = -1 }, api.ErrMissing},
		{func(a *args) { a.number = 1000000001 }, api.ErrRange}, {func(a *args) { a.number = -1000000002 }, api.ErrRange}, {func(a *args) { a.number = -1 << 63 }, api.ErrRange},
		{func(a *args) { a.number = 7 }, api.ErrForm},
		{func(a *args) { a.bench[0].Gain, a.bench[0].Off, a.bench[2].Off = one(2000000), none, one(2) }, api.ErrClash},
	}, func(a args) api.Errno {
		r, e := True(a.bench, a.m, a.number)
		if e != api.OK && r != none {
			t.Error(r, e)
		}
		return e
	})
}

// P7.2: true values that were found by hand, with long chains, great numbers and gaps.
func TestTrueByHand(t *testing.T) {
	double, halve := row(12, meter(one(2000000), none, 1, -1)), row(12, meter(one(500000), none, 1, -1))
	any := row(12, meter(of(500000, 2000000), of(-1000000, 1000000), 1, -1))
	odd := []api.Meter{meter(one(1000000), none, 7, -1), meter(one(1000000), none, 8, -1), meter(one(1000000), of(0, 3), 1, -1), meter(one(2000000), none, 1, 2), meter(one(1000000), one(1), 3, 3)}
	for i, c := range []struct {
		bench     []api.Meter
		m, number int
		want      api.Range
	}{
		{double, 11, 4096, one(1)}, {double, 11, -8192, one(-2)}, {double, 11, 0, none}, {double, 11, 4096 * 244140, one(244140)}, {double, 10, 2048, one(1)}, {double, 0, 1000000000, one(500000000)},
		{halve, 11, 1, of(1, 8191)}, {halve, 11, 0, of(-4095, 4095)}, {halve, 11, -2, of(-3*4096+1, -4097)}, {halve, 11, 244140, of(999993345, 1000000000)}, {halve, 11, 244141, of(999997441, 1000000000)}, {halve, 11, -244141, of(-1000000000, -999997441)}, {halve, 0, 500000000, of(999999999, 1000000000)},
		{any, 0, 0, of(-2000001, 2000001)}, {any, 11, 0, all}, {any, 11, 1000000000, of(-6359375, 1000000000)}, {any, 11, -1000000000, of(-1000000000, 6359375)},
		// A step of 7 goes 3 to each side, one of 8 goes 4; what lies in the middle may be shown as both.
		{odd, 0, 14, of(11, 17)}, {odd, 1, 16, of(12, 20)}, {odd, 1, -8, of(-12, -4)}, {odd, 1, 24, of(20, 28)},
		// x is seen as x to x + 3, then as twice these, and then as 1 more than these, which is odd.
		{odd, 2, 5, of(2, 5)}, {odd, 3, 10, of(2, 5)}, {odd, 4, 12, of(2, 6)}, {odd, 4, 9, of(1, 4)},
	} {
		if r := trueOf(t, c.bench, c.m, c.number); r != c.want {
			t.Error(i, r)
		}
	}
	for i, c := range []struct {
		bench     []api.Meter
		m, number int
	}{
		{double, 11, 4097}, {double, 11, 4095}, {double, 11, 2048}, {double, 11, 1}, {double, 11, -1}, {double, 11, 999999999}, {double, 0, 999999999}, {halve, 11, 244142}, {halve, 11, -244142}, {halve, 11, 1000000000}, {halve, 0, 500000001}, {odd, 3, 9}, {odd, 3, -1},
	} {
		if r, e := True(c.bench, c.m, c.number); r != none || e != api.ErrClash {
			t.Error(i, r, e)
		}
	}
}

// P7.2, P7.7: with small numbers the true values are just those of which the meter may show the number.
func TestTrueIsExact(t *testing.T) {
	clashes, found := 0, 0
	for _, k := range []kind{smallKind, {3, 0, 3, 0, 4}} {
		benches(t, 3, 400, k, func(d *dice, bench []api.Meter, m int) {
			// A number up to 20 is seen as 24 at most, and this was made of a value that is at most ((24 + 3) x 2 + 3) x 2 + 3, twice.
			seen := map[int][]int{}
			for x := -260; x <= 260; x++ {
				seen[x] = plainSeen(bench, m, x)
			}
			for number := -20; number <= 20; number++ {
				r, e := True(bench, m, number)
				if number%bench[m].Step != 0 {
					if e != api.ErrForm {
						t.Error(number, e)
					}
					continue
				}
				some := false
				for x := range seen {
					is := plainShows(seen[x], bench[m].Step, number)
					some = some || is
					if is != (e == api.OK && r.Lo <= x && x <= r.Hi) {
						t.Error(number, x, is, r, e)
					}
				}
				if some != (e == api.OK) || !some && (e != api.ErrClash || r != none) || r.Lo < -250 || r.Hi > 250 {
					t.Error(number, r, e)
				}
				if some {
					found++
				} else {
					clashes++
				}
			}
		})
	}
	if clashes < 1000 || found < 1000 {
		t.Error(clashes, found)
	}
}

// firstValue returns the first value from which on a condition holds, which never ends; one more than the last one if there is none.
func firstValue(holds func(x int) bool) int {
	lo, hi := -1000000000, 1000000001
	for lo < hi {
		if x := floor(lo+hi, 2); holds(x) {
			hi = x
		} else {
			lo = x + 1
		}
	}
	return lo
}

// P7.2, P7.7, R7: with great numbers, and long chains, the ends of the true values are those of which the meter may show the number.
func TestTrueAtItsEnds(t *testing.T) {
	clashes, found, cut := 0, 0, 0
	benches(t, 4, 3000, greatKind, func(d *dice, bench []api.Meter, m int) {
		number := d.number(bench[m], []int{d.of(all), d.of(plainEnds(bench, m, d.of(all)))}[d.upTo(2)])
		h := bench[m].Step / 2
		want := of(firstValue(func(x int) bool { return plainEnds(bench, m, x).Hi >= number-h }), firstValue(func(x int) bool { return plainEnds(bench, m, x).Lo > number+h })-1)
		r, e := True(bench, m, number)
		if e == api.OK {
			found++
			if r != want {
				t.Error(number, r, want)
			}
			if r.Lo == all.Lo || r.Hi == all.Hi {
				cut++
			}
			return
		}
		clashes++
		if e != api.ErrClash || r != none {
			t.Error(number, r, e)
		}
		// No value lies between, or what is seen leaves a gap there, which only narrow meters do.
		narrow := func(n int) bool { return plainMakes(bench[n], 0).Hi-plainMakes(bench[n], 0).Lo < 2 }
		if want.Lo <= want.Hi && !slices.ContainsFunc(plainChain(bench, m), narrow) {
			t.Error(number, want)
		}
	})
	if clashes < 100 || found < 1000 || cut < 100 {
		t.Error(clashes, found, cut)
	}
}

// P7.2, P7.7: where meters leave gaps, there are true values just for what may be shown, and those at the ends may be.
func TestTrueWithGaps(t *testing.T) {
	clashes, found := 0, 0
	benches(t, 5, 4000, exactKind, func(d *dice, bench []api.Meter, m int) {
		number := d.number(bench[m], d.of(plainEnds(bench, m, d.from(-1000000000, 1000000000))))
		h := bench[m].Step / 2
		lo := firstValue(func(x int) bool { return plainEnds(bench, m, x).Hi >= number-h })
		hi := firstValue(func(x int) bool { return plainEnds(bench, m, x).Lo > number+h }) - 1
		var l []int // the values that may be shown so, all of which lie around both
		for x := max(min(lo, hi)-3, -1000000000); x <= min(max(lo, hi)+3, 1000000000); x++ {
			if plainShows(plainSeen(bench, m, x), bench[m].Step, number) {
				l = append(l, x)
			}
		}
		r, e := True(bench, m, number)
		if len(l) == 0 {
			clashes++
			if e != api.ErrClash || r != none {
				t.Error(number, r, e, l)
			}
			return
		}
		found++
		if e != api.OK || r != of(l[0], l[len(l)-1]) || len(l) != r.Hi-r.Lo+1 {
			t.Error(number, r, e, l)
		}
	})
	if clashes < 300 || found < 1000 {
		t.Error(clashes, found)
	}
}

// P7.2: Verdict looks at all numbers of a range; it has none if there is no number, whatever the ends are.
func TestVerdict(t *testing.T) {
	for a := range 5 {
		for b := range 5 {
			for c := range 5 {
				for d := range 5 {
					for _, by := range []int{0, -2, 1 << 40} {
						r, limits := of(a+by, b+by), of(c+by, d+by)
						if v := Verdict(r, limits); v != plainVerdict(r, limits) {
							t.Error(r, limits, v)
						}
					}
				}
			}
		}
	}
	least, most := -1<<63, 1<<63-1
	for i, c := range []struct {
		r, limits api.Range
		want      int
	}{{of(least, most), of(least, most), api.Sure}, {of(least, most), one(0), api.Unsure}, {one(least), one(most), api.Never}, {one(most), of(least, most), api.Sure}, {of(most, least), of(least, most), 0}, {one(0), of(most, least), 0}, {of(1, 0), of(1, 0), 0}} {
		if v := Verdict(c.r, c.limits); v != c.want {
			t.Error(i, v)
		}
	}
}

// P7.2: Accept's errors in their order.
func TestErrorsOfAccept(t *testing.T) {
	type args struct {
		bench  []api.Meter
		m      int
		limits api.Range
	}
	inOrder(t, func() args { return args{benchX(), 1, of(5, 15)} }, []fault[args]{
		{func(a *args) { a.bench[2].Due = -1 }, api.ErrRange}, {func(a *args) { a.bench[0].By = 0 }, api.ErrLoose},
		{func(a *args) { a.m = 3 }, api.ErrMissing}, {func(a *args) { a.m = -1 }, api.ErrMissing},
		{func(a *args) { a.limits = of(16, 15) }, api.ErrOrder}, {func(a *args) { a.limits = of(1<<63-1, -1<<63) }, api.ErrOrder},
		{func(a *args) { a.limits = of(5, 14) }, api.ErrState}, {func(a *args) { a.limits = one(1<<63 - 1) }, api.ErrState}, {func(a *args) { a.limits = of(-1<<63, -1000000001) }, api.ErrState},
	}, func(a args) api.Errno {
		r, e := Accept(a.bench, a.m, a.limits)
		if e != api.OK && r != none {
			t.Error(r, e)
		}
		return e
	})
}

// P7.2: what is accepted at the ends of all values, over gaps, and with limits that are wider than all values.
func TestAcceptByHand(t *testing.T) {
	double, halve := row(12, meter(one(2000000), none, 1, -1)), row(12, meter(one(500000), none, 1, -1))
	step := []api.Meter{meter(one(1000000), none, 7, -1), meter(one(1000000), of(-3, 2), 1000000, -1), meter(one(2000000), none, 3, -1), meter(one(2000000), none, 4, -1)}
	exact := row(1, meter(one(1000000), none, 1, -1))
	whole := of(-1<<63, 1<<63-1)
	for i, c := range []struct {
		bench  []api.Meter
		m      int
		limits api.Range
		want   api.Range
		e      api.Errno
	}{
		{double, 11, of(-3, 5), of(-3*4096, 5*4096), api.OK}, {double, 11, one(244140), one(244140 * 4096), api.OK}, {double, 11, one(244141), none, api.ErrState}, {double, 11, whole, of(-244140*4096, 244140*4096), api.OK}, {double, 0, of(-7, whole.Hi), of(-14, 1000000000), api.OK},
		{halve, 11, whole, of(-244141, 244141), api.OK}, {halve, 11, of(-4095, 8191), of(0, 1), api.OK}, {halve, 11, of(-4094, 8191), one(1), api.OK}, {halve, 11, of(-4094, 8190), none, api.ErrState}, {halve, 11, of(999997441, 1000000000), one(244141), api.OK}, {halve, 11, of(999997442, 1000000000), none, api.ErrState}, {halve, 11, of(-1000000000, -999993345), of(-244141, -244140), api.OK},
		{step, 0, whole, of(-999999994, 999999994), api.OK}, {step, 0, of(4, 10), one(7), api.OK}, {step, 0, of(4, 9), none, api.ErrState}, {step, 0, of(-10, 17), of(-7, 14), api.OK},
		{step, 1, whole, of(-1000000000, 1000000000), api.OK}, {step, 1, of(-500002, 500003), one(0), api.OK}, {step, 1, of(-500001, 500003), none, api.ErrState}, {step, 1, of(-500002, 500002), none, api.ErrState}, {step, 1, of(499998, 1000000000), of(1000000, 1000000000), api.OK}, {step, 1, of(499999, 1000000000), of(2000000, 1000000000), api.OK},
		// Values at both ends of all of them.
		{exact, 0, one(1000000000), one(1000000000), api.OK}, {exact, 0, one(-1000000000), one(-1000000000), api.OK}, {exact, 0, of(999999999, 1<<62), of(999999999, 1000000000), api.OK}, {exact, 0, whole, all, api.OK},
		// Twice 1 is 2, which may be shown as 3, or as 0 or 4; twice 2 is 4, which may be shown as 3, or as 4.
		{step, 2, one(0), none, api.OK}, {step, 2, one(1), none, api.ErrState}, {step, 2, one(2), none, api.ErrState}, {step, 2, of(1, 2), one(3), api.OK}, {step, 2, of(1, 3), of(3, 6), api.OK}, {step, 3, of(1, 3), one(4), api.OK}, {step, 3, of(0, 2), none, api.ErrState}, {step, 3, of(-1, 3), of(0, 4), api.OK},
	} {
		if r, e := Accept(c.bench, c.m, c.limits); r != c.want || e != c.e {
			t.Error(i, r, e)
		}
	}
}

// P7.2: with small limits, Accept has the least and the greatest number whose true values lie in them.
func TestAcceptIsExact(t *testing.T) {
	count := map[api.Errno]int{}
	for _, k := range []kind{smallKind, {3, 0, 3, 0, 4}} {
		benches(t, 6, 500, k, func(d *dice, bench []api.Meter, m int) {
			limits := d.any(-40, 40)
			var want []int
			for n := -400; n <= 400; n++ { // a value up to 40 is seen as 40 x 8 and 24 at most, or 10 more for wide gains
				if n%bench[m].Step == 0 {
					if sure, _ := surely(t, bench, m, n, limits); sure {
						want = append(want, n)
					}
				}
			}
			r, e := Accept(bench, m, limits)
			count[e]++
			if len(want) == 0 {
				if e != api.ErrState || r != none {
					t.Error(limits, r, e)
				}
			} else if e != api.OK || r != of(want[0], want[len(want)-1]) || r.Lo < -390 || r.Hi > 390 {
				t.Error(limits, r, e, want)
			}
		})
	}
	if count[api.OK] < 200 || count[api.ErrState] < 200 {
		t.Error(count)
	}
}
