package cathode

import (
	"testing"

	"thermion/api"
)

// P3.7 (bounds), P0: the mixes of a possible course lie within the bounds, are together the amount, and what became oxide lies within Gas.
func TestBounds(t *testing.T) {
	cases(t, 10, 4000, func(d *dice, c api.Coat, l []api.Heating) {
		course := d.course(c, l)
		if !Possible(c, l, course) {
			t.Error(course)
		}
		all := stepByStep(t, c, l)
		for n, m := range course {
			if !isMixIn(m, all[n]) || m.Carbonate+m.Oxide+m.Barium+m.Lost != c.Amount {
				t.Error(n, m, all[n])
			}
			if n > 0 && !isRangeIn(one(course[n-1].Carbonate-m.Carbonate), all[n].Gas) {
				t.Error(n, m, all[n])
			}
		}
	})
}

// stepByStep returns the fresh coating, and what Tick makes of it in each tick of a schedule.
func stepByStep(t *testing.T, c api.Coat, l []api.Heating) []api.Coating {
	t.Helper()
	x, e := Fresh(c)
	if e != api.OK {
		t.Fatal(c, e)
	}
	all := []api.Coating{x}
	for _, h := range l {
		for range h.Ticks {
			x = ticked(t, c, x, h.Heat, h.Current)
			all = append(all, x)
		}
	}
	return all
}

// P3.8, P0: with narrower rates the bounds lie within the bounds; a coating within another one remains so.
func TestNarrowerRates(t *testing.T) {
	cases(t, 11, 4000, func(d *dice, c api.Coat, l []api.Heating) {
		in := d.coatIn(c)
		a, b := stepByStep(t, in, l), stepByStep(t, c, l)
		for n := range a {
			if !isCoatingIn(a[n], b[n]) {
				t.Error(n, a[n], b[n])
			}
		}
	})
}

// P3.9 (verdicts): in all possible courses the demand is kept if the verdict is Sure, and in none if it is Never.
func TestVerdicts(t *testing.T) {
	count := map[int]int{}
	cases(t, 12, 3000, func(d *dice, c api.Coat, l []api.Heating) {
		demand := d.demand(c)
		demand.Wear = api.MaxWear
		verdict, _ := judged(t, c, demand, l)
		count[verdict]++
		for range 3 {
			kept := isKept(demand, d.course(c, l))
			if kept && verdict == api.Never || !kept && verdict == api.Sure {
				t.Error(demand, verdict)
			}
		}
	})
	if count[api.Sure] < 100 || count[api.Never] < 100 || count[api.Unsure] < 100 {
		t.Error(count)
	}
}

// isKept reports whether a course keeps a demand, but for its wear.
func isKept(d api.Demand, course []api.Mix) bool {
	for n, m := range course {
		if n > 0 && (course[n-1].Carbonate-m.Carbonate > d.Gas || m.Lost > d.Lost) {
			return false
		}
	}
	m := course[len(course)-1]
	return m.Carbonate <= d.Rest && m.Barium >= d.Barium
}

// P3.10, P0: with harder demands a verdict that is not Sure does not become so, and Never stays; with narrower rates Sure and Never stay.
func TestHarderDemands(t *testing.T) {
	cases(t, 13, 4000, func(d *dice, c api.Coat, l []api.Heating) {
		a := d.demand(c)
		b := api.Demand{Gas: d.upTo(a.Gas + 1), Wear: d.upTo(a.Wear + 1), Lost: d.upTo(a.Lost + 1), Rest: d.upTo(a.Rest + 1), Barium: a.Barium + d.upTo(2)*d.upTo(c.Amount)}
		v, _ := judged(t, c, a, l)
		w, _ := judged(t, c, b, l)
		if v != api.Sure && w == api.Sure || v == api.Never && w != api.Never {
			t.Error(a, b, v, w)
		}
		u, _ := judged(t, d.coatIn(c), a, l)
		if v != api.Unsure && u != v {
			t.Error(a, v, u)
		}
	})
}

// P3.11: a heating can be split.
func TestSplit(t *testing.T) {
	cases(t, 14, 3000, func(d *dice, c api.Coat, l []api.Heating) {
		var split []api.Heating
		var ends []int
		for _, h := range l {
			if n := d.upTo(h.Ticks); n > 0 {
				split = append(split, api.Heating{Ticks: n, Heat: h.Heat, Current: h.Current})
				h.Ticks -= n
			}
			split = append(split, h)
			ends = append(ends, len(split)-1)
		}
		a, b := followed(t, c, l), followed(t, c, split)
		for i, k := range ends {
			if a[i] != b[k] {
				t.Error(i, k, split)
			}
		}
		demand := d.demand(c)
		v, n := judged(t, c, demand, l)
		if w, m := judged(t, c, demand, split); v != w || n != m {
			t.Error(split, demand, v, n, w, m)
		}
	})
}

// P3.12, P3.15: carbonate never rises, lost and wear never fall; the heat changes by no more than Slew, and comes to the one that is asked for.
func TestCourseOfBounds(t *testing.T) {
	d := dice(15)
	for range 3000 {
		c := d.coat()
		x := d.coating(c)
		heat, current := d.heat(), d.upTo(api.MaxFlow+1)
		for range d.from(1, 30) {
			if CheckCoating(c, x) != api.OK {
				break // more than the amount can only come of a coating that can't be
			}
			y := ticked(t, c, x, heat, current)
			if y.Carbonate.Lo > x.Carbonate.Lo || y.Carbonate.Hi > x.Carbonate.Hi || y.Lost.Lo < x.Lost.Lo || y.Lost.Hi < x.Lost.Hi || y.Wear.Lo < x.Wear.Lo || y.Wear.Hi < x.Wear.Hi {
				t.Fatal(c, x, y)
			}
			if y.Heat-x.Heat > c.Slew || x.Heat-y.Heat > c.Slew {
				t.Fatal(c, x, y, heat)
			}
			x = y
		}
	}
	for range 300 {
		c := api.Coat{Amount: 1, Slew: d.from(1, []int{3, 900, api.MaxHeat}[d.upTo(3)]), Bands: []api.Band{{}}}
		x, heat := api.Coating{Heat: d.heat()}, d.heat()
		for range (api.MaxHeat + c.Slew - 1) / c.Slew {
			x = ticked(t, c, x, heat, 0)
		}
		if x.Heat != heat || ticked(t, c, x, heat, 0).Heat != heat {
			t.Fatal(c, x, heat)
		}
	}
}

// P3.13 (life), P0: a life's Lo is at most its Hi; with a greater least amount neither is greater; with a narrower coating and rates it lies within.
func TestLives(t *testing.T) {
	cases(t, 16, 600, func(d *dice, c api.Coat, l []api.Heating) {
		c.Bands[0].Evaporate = d.any(0, 2000)
		all := stepByStep(t, c, l)
		x := all[len(all)-1]
		heat, current := d.heat(), d.upTo(api.MaxFlow+1)
		least := d.upTo(min(c.Amount, x.Barium.Hi) + 1)
		a, e := Life(c, x, heat, current, least)
		b, f := Life(c, x, heat, current, d.from(least, c.Amount))
		if e != api.OK || f != api.OK || a.Lo > a.Hi || b.Lo > b.Hi || b.Lo > a.Lo || b.Hi > a.Hi {
			t.Error(x, heat, current, least, a, b)
		}
		in := d.coatIn(c)
		y := stepByStep(t, in, l)[len(all)-1]
		if r, e := Life(in, y, heat, current, least); e != api.OK || !isRangeIn(r, a) {
			t.Error(in, x, y, heat, current, least, a, r)
		}
	})
}

// P3.16: the emission of a coating lies within that of one with wider bounds.
func TestEmissions(t *testing.T) {
	d := dice(17)
	for range 5000 {
		c := d.coat()
		x := d.coating(c)
		y := changed(x, func(x *api.Coating) { x.Barium = d.in(x.Barium) })
		a, e := Emission(c, y)
		b, f := Emission(c, x)
		if e != api.OK || f != api.OK || !isRangeIn(a, b) || a.Lo > a.Hi {
			t.Fatal(c, x, y, a, b)
		}
	}
}

// P3.17: with all rates 0 parts and wear stay as they are, and no gas comes.
func TestNoRates(t *testing.T) {
	d := dice(18)
	for range 5000 {
		c := d.coat()
		c.Aid = none
		for i, b := range c.Bands {
			c.Bands[i] = api.Band{From: b.From}
		}
		x := d.coating(c)
		y := ticked(t, c, x, d.heat(), d.upTo(api.MaxFlow+1))
		if want := changed(x, func(x *api.Coating) { x.Gas, x.Heat = none, y.Heat }); y != want {
			t.Fatal(c, x, y)
		}
	}
}
