package cathode

import (
	"math"
	"slices"
	"testing"

	"thermion/api"
)

// odd are numbers that arguments may have, too.
var odd = []int{math.MinInt, math.MinInt + 15, -1000001, -17, -1, 0, 1, 2, 999, 1000000, 1000001, 1 << 40, 1<<40 + 1, math.MaxInt - 15, math.MaxInt}

// oddCoats are coats that are hardly any.
func oddCoats() []api.Coat {
	l := []api.Coat{{}, coatK(), {Amount: 1, Slew: 1, Bands: make([]api.Band, 5000)}, {Amount: 1000000, Slew: 2000, Bands: []api.Band{{}}}}
	for _, n := range odd {
		l = append(l,
			changed(coatK(), func(c *api.Coat) { c.Amount = n }), changed(coatK(), func(c *api.Coat) { c.Slew = n }),
			changed(coatK(), func(c *api.Coat) { c.Bands[0].From = n }), changed(coatK(), func(c *api.Coat) { c.Bands[1].From = n }))
		for i := range rangesOf(new(coatK())) {
			l = append(l, changed(coatK(), func(c *api.Coat) { *rangesOf(c)[i] = one(n) }), changed(coatK(), func(c *api.Coat) { *rangesOf(c)[i] = of(0, n) }))
		}
	}
	return l
}

// oddCoatings are coatings that are hardly any.
func oddCoatings() []api.Coating {
	l := []api.Coating{{}, secondK(), fresh(coatK())}
	for _, n := range odd {
		l = append(l, api.Coating{Heat: n}, api.Coating{Carbonate: one(n), Oxide: one(n), Barium: one(n), Lost: one(n), Gas: one(n), Wear: one(n)})
		for i := range partsOf(new(api.Coating)) {
			l = append(l, changed(secondK(), func(x *api.Coating) { *partsOf(x)[i] = one(n) }), changed(secondK(), func(x *api.Coating) { *partsOf(x)[i] = of(0, n) }))
		}
	}
	return l
}

// P1, R3, R5: with whatever coats and coatings, each function ends, does not panic, and has nothing but an error with an error.
func TestAnyCoats(t *testing.T) {
	xs := oddCoatings()
	for i, c := range oddCoats() {
		bad := Check(c)
		if x, e := Fresh(c); e != bad || e != api.OK && x != (api.Coating{}) {
			t.Error(i, x, e)
		}
		if !Same(c, Copy(c)) {
			t.Error(i)
		}
		for k, x := range xs {
			badX := CheckCoating(c, x)
			n, m := odd[(i+k)%len(odd)], odd[(i*7+k)%len(odd)]
			a, e1 := Tick(c, x, n, m)
			b, e2 := Tick(c, x, 1100, 3)
			r, e3 := Emission(c, x)
			l, e4 := Life(c, x, n, m, 0)
			o, e5 := Life(c, x, 1100, 3, n)
			if e1 != api.OK && a != (api.Coating{}) || e2 != api.OK && b != (api.Coating{}) || e3 != api.OK && r != none || e4 != api.OK && l != none || e5 != api.OK && o != none {
				t.Error(i, k, a, b, r, l, o)
			}
			if badX != api.OK && (e1 != badX || e2 != badX || e3 != badX || e4 != badX || e5 != badX) || bad != api.OK && badX != bad {
				t.Error(i, k, e1, e2, e3, e4, e5, badX, bad)
			}
		}
	}
}

// P1, R3, R5: with whatever schedules, demands and menus, each function ends, does not panic, and has nothing but an error with an error.
func TestAnySchedules(t *testing.T) {
	schedules := [][]api.Heating{nil, {}, {hot}, make([]api.Heating, 5000), slices.Repeat([]api.Heating{hot}, 5000)}
	demands := []api.Demand{{}, easy}
	for _, n := range odd {
		schedules = append(schedules, []api.Heating{step(n, 0, 0)}, []api.Heating{step(1, n, 0)}, []api.Heating{step(1, 0, n)}, []api.Heating{hot, step(n, n, n)}, slices.Repeat([]api.Heating{step(n, 0, 0)}, 40))
		demands = append(demands, api.Demand{Gas: n}, api.Demand{Wear: n}, api.Demand{Lost: n}, api.Demand{Rest: n}, api.Demand{Barium: n})
	}
	for i, l := range schedules {
		bad := CheckSchedule(l)
		if all, e := Follow(coatK(), l); e != bad || e != api.OK && all != nil {
			t.Error(i, all, e)
		}
		for _, n := range odd {
			Possible(coatK(), l, []api.Mix{{Carbonate: 1000}, {Carbonate: n}})
			Possible(coatK(), l, []api.Mix{{Carbonate: n, Oxide: n, Barium: n, Lost: n}})
		}
		for k, d := range demands {
			v, n, e := Judge(coatK(), d, l)
			if e != api.OK && (v != 0 || n != 0) || e == api.OK && (v < 1 || v > 3 || bad != api.OK) {
				t.Error(i, k, v, n, e)
			}
			list, n, e := Shortest(coatK(), d, l, odd[(i+k)%len(odd)])
			if e != api.OK && (list != nil || n != 0) || e == api.OK && (len(list) == 0 || n == 0) {
				t.Error(i, k, list, n, e)
			}
		}
	}
}

// P1: the greatest work ends.
func TestGreatestWork(t *testing.T) {
	c := coatK()
	c.Bands = append(bands(14), c.Bands[1])
	menu := times(4, api.Heating{Ticks: 100, Heat: 1100, Current: 1000})
	if l, n, e := Shortest(c, api.Demand{Gas: 1000, Wear: api.MaxWear, Lost: 1000, Barium: 1000}, menu, 5); l != nil || n != 0 || e != api.ErrMissing {
		t.Error(l, n, e)
	}
	if v, n := judged(t, c, api.Demand{Gas: 1000, Wear: api.MaxWear, Lost: 1000, Rest: 1000}, times(40, api.Heating{Ticks: 500, Heat: 2000})); v != api.Sure || n != 0 {
		t.Error(v, n)
	}
}

// R4: arguments are not changed.
func TestArgumentsAreKept(t *testing.T) {
	cases(t, 30, 300, func(d *dice, c api.Coat, l []api.Heating) {
		was, list, course := Copy(c), slices.Clone(l), d.course(c, l)
		mixes := slices.Clone(course)
		x := d.coating(c)
		Tick(c, x, 900, 3)
		Follow(c, l)
		Possible(c, l, course)
		Judge(c, d.demand(c), l)
		Life(c, x, 900, 3, 0)
		Shortest(c, d.demand(c), l, 3)
		Same(c, was)
		if !Same(c, was) || !slices.Equal(l, list) || !slices.Equal(course, mixes) {
			t.Error(c, l, course)
		}
	})
}

// R4, R6: results are apart, and a call depends on its arguments alone.
func TestCallsAreAlike(t *testing.T) {
	a, b := followed(t, coatK(), []api.Heating{hot, hot}), followed(t, coatK(), []api.Heating{hot, hot})
	a[0].Heat, a[1].Wear = 5, none
	if b[0].Heat != 1100 || b[1] != secondK() {
		t.Error(b)
	}
	for range 3 {
		l, n, e := Shortest(coatK(), easy, []api.Heating{quick}, 3)
		if !slices.Equal(l, []int{0, 0}) || n != 2 || e != api.OK {
			t.Error(l, n, e)
		}
		l[0], l[1] = 7, 7
		judged(t, coatK(), easy, []api.Heating{hot})
	}
}
