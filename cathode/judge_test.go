package cathode

import (
	"testing"

	"thermion/api"
)

// P3.4: errors of demands; they come before those of the schedule.
func TestDemandErrors(t *testing.T) {
	for i, change := range []func(d *api.Demand, n int){
		func(d *api.Demand, n int) { d.Gas = n }, func(d *api.Demand, n int) { d.Wear = n }, func(d *api.Demand, n int) { d.Lost = n }, func(d *api.Demand, n int) { d.Rest = n }, func(d *api.Demand, n int) { d.Barium = n },
	} {
		for n, want := range map[int]api.Errno{0: api.OK, 1 << 40: api.OK, -1: api.ErrRange, 1<<40 + 1: api.ErrRange} {
			var d api.Demand
			change(&d, n)
			if _, _, e := Judge(coatK(), d, nil); e != want {
				t.Error(i, n, e)
			}
			if want == api.OK {
				continue
			}
			if _, _, e := Judge(coatK(), d, times(41, hot)); e != want {
				t.Error(i, n, e)
			}
			if _, _, e := Shortest(coatK(), d, nil, 0); e != want {
				t.Error(i, n, e)
			}
		}
	}
}

// P3.4: verdicts that were found by hand.
func TestJudge(t *testing.T) {
	two, four := []api.Heating{hot}, []api.Heating{hot, hot}
	all := api.Demand{Gas: 1 << 40, Wear: 1 << 40, Lost: 1 << 40, Rest: 1 << 40}
	with := func(change func(d *api.Demand)) api.Demand { return changed(all, change) }
	for i, c := range []struct {
		d             api.Demand
		l             []api.Heating
		verdict, tick int
	}{
		{all, nil, api.Sure, 0}, {all, two, api.Sure, 0}, {all, four, api.Sure, 0},
		{api.Demand{Gas: 200, Wear: 2, Rest: 900}, two, api.Sure, 0}, {api.Demand{Gas: 200, Wear: 2, Rest: 899}, two, api.Unsure, 2}, {api.Demand{Gas: 99, Wear: 2, Rest: 900}, two, api.Never, 2},
		// Of the schedule without ticks: only the last demands, for the fresh coating.
		{api.Demand{Rest: 1000}, nil, api.Sure, 0}, {api.Demand{Rest: 999}, nil, api.Never, 0}, {api.Demand{Rest: 1000, Barium: 1}, nil, api.Never, 0}, {api.Demand{Rest: 1 << 40}, nil, api.Sure, 0},
		// Gas is 100 to 200 after the second tick, then 80 to 180, then 64 to 162.
		{with(func(d *api.Demand) { d.Gas = 200 }), four, api.Sure, 0}, {with(func(d *api.Demand) { d.Gas = 199 }), four, api.Unsure, 2}, {with(func(d *api.Demand) { d.Gas = 100 }), four, api.Unsure, 2}, {with(func(d *api.Demand) { d.Gas = 99 }), four, api.Never, 2}, {with(func(d *api.Demand) { d.Gas = 0 }), four, api.Never, 2},
		// The wear is 1 to 2, then 2 to 4, then 3 to 6.
		{with(func(d *api.Demand) { d.Wear = 6 }), four, api.Sure, 0}, {with(func(d *api.Demand) { d.Wear = 5 }), four, api.Unsure, 4}, {with(func(d *api.Demand) { d.Wear = 4 }), four, api.Unsure, 4}, {with(func(d *api.Demand) { d.Wear = 3 }), four, api.Unsure, 3},
		{with(func(d *api.Demand) { d.Wear = 2 }), four, api.Never, 4}, {with(func(d *api.Demand) { d.Wear = 1 }), four, api.Never, 3}, {with(func(d *api.Demand) { d.Wear = 0 }), four, api.Never, 2},
		// Lost is 0 to 1 after the last tick alone.
		{with(func(d *api.Demand) { d.Lost = 1 }), four, api.Sure, 0}, {with(func(d *api.Demand) { d.Lost = 0 }), four, api.Unsure, 4}, {with(func(d *api.Demand) { d.Lost = 0 }), two, api.Sure, 0},
		// Carbonate is 512 to 729 at the end, which alone counts; barium is 26 to 56.
		{with(func(d *api.Demand) { d.Rest = 729 }), four, api.Sure, 0}, {with(func(d *api.Demand) { d.Rest = 728 }), four, api.Unsure, 4}, {with(func(d *api.Demand) { d.Rest = 512 }), four, api.Unsure, 4}, {with(func(d *api.Demand) { d.Rest = 511 }), four, api.Never, 4},
		{with(func(d *api.Demand) { d.Barium = 26 }), four, api.Sure, 0}, {with(func(d *api.Demand) { d.Barium = 27 }), four, api.Unsure, 4}, {with(func(d *api.Demand) { d.Barium = 56 }), four, api.Unsure, 4}, {with(func(d *api.Demand) { d.Barium = 57 }), four, api.Never, 4},
		// The first one in doubt, unless there is one that is broken, also later or in the same tick.
		{with(func(d *api.Demand) { d.Gas, d.Rest = 199, 728 }), four, api.Unsure, 2}, {with(func(d *api.Demand) { d.Gas, d.Rest = 199, 511 }), four, api.Never, 4}, {with(func(d *api.Demand) { d.Gas, d.Wear = 199, 0 }), four, api.Never, 2}, {with(func(d *api.Demand) { d.Gas, d.Wear = 99, 1 }), four, api.Never, 2},
		{with(func(d *api.Demand) { d.Wear, d.Gas, d.Barium = 3, 179, 57 }), four, api.Never, 4}, {with(func(d *api.Demand) { d.Wear, d.Gas = 3, 180 }), four, api.Unsure, 2}, {with(func(d *api.Demand) { d.Rest, d.Barium = 700, 57 }), four, api.Never, 4}, {with(func(d *api.Demand) { d.Rest, d.Barium = 511, 40 }), four, api.Never, 4},
		{with(func(d *api.Demand) { d.Lost, d.Rest = 0, 511 }), four, api.Never, 4}, {with(func(d *api.Demand) { d.Wear, d.Lost = 3, 0 }), four, api.Unsure, 3},
	} {
		if v, n := judged(t, coatK(), c.d, c.l); v != c.verdict || n != c.tick {
			t.Error(i, v, n)
		}
	}
}

// P3.4: verdicts are those of the chapter's rules, which look at all bounds after all ticks.
func TestJudgeIsThatOfTheRules(t *testing.T) {
	count := map[int]int{}
	cases(t, 4, 6000, func(d *dice, c api.Coat, l []api.Heating) {
		demand := d.demand(c)
		v, n := judged(t, c, demand, l)
		count[v]++
		if w, m := plainJudge(c, demand, l); v != w || n != m {
			t.Error(demand, v, n, w, m)
		}
	})
	if count[api.Sure] < 300 || count[api.Never] < 300 || count[api.Unsure] < 300 {
		t.Error(count)
	}
}

// plainJudge looks for ticks after which something is broken, and then for such after which something is in doubt.
func plainJudge(c api.Coat, d api.Demand, l []api.Heating) (verdict, tick int) {
	all := plainRun(c, l)
	most := func(n int) (broken, kept bool) {
		x := all[n]
		broken = x.Gas.Lo > d.Gas || x.Wear.Lo > d.Wear || x.Lost.Lo > d.Lost
		kept = x.Gas.Hi <= d.Gas && x.Wear.Hi <= d.Wear && x.Lost.Hi <= d.Lost
		if n == 0 {
			broken, kept = false, true
		}
		if n == len(all)-1 {
			broken = broken || x.Carbonate.Lo > d.Rest || x.Barium.Hi < d.Barium
			kept = kept && x.Carbonate.Hi <= d.Rest && x.Barium.Lo >= d.Barium
		}
		return broken, kept
	}
	for n := range all {
		if broken, _ := most(n); broken {
			return 2, n
		}
	}
	for n := range all {
		if _, kept := most(n); !kept {
			return 3, n
		}
	}
	return 1, 0
}

// P3.4: errors of lives; the wear does not count.
func TestLifeErrors(t *testing.T) {
	for i, c := range []struct {
		heat, current, least int
		want                 api.Errno
	}{
		{0, 0, 0, api.OK}, {2000, 1000, 1000, api.OK}, {-1, 0, 0, api.ErrRange}, {2001, 0, 0, api.ErrRange}, {0, -1, 0, api.ErrRange}, {0, 1001, 0, api.ErrRange}, {0, 0, -1, api.ErrRange}, {0, 0, 1001, api.ErrRange},
	} {
		if r, e := Life(coatK(), secondK(), c.heat, c.current, c.least); e != c.want || e != api.OK && r != none {
			t.Error(i, r, e)
		}
	}
}

// P3.4: lives that were found by hand.
func TestLife(t *testing.T) {
	// Of the barium 0 to 1 of a hundred are lost in a tick from the heat 1000 on, rounded up: 100, 99, 98, ...
	some := api.Coating{Barium: one(100), Heat: 1000}
	warm := changed(some, func(x *api.Coating) { x.Heat = 599 })
	worn := changed(some, func(x *api.Coating) { x.Wear = one(1 << 40) })
	full := api.Coating{Barium: one(1000), Heat: 1000}
	low := api.Coating{Oxide: one(100), Heat: 1000}
	falls := changed(coatK(), func(c *api.Coat) { c.Bands[1].Evaporate = of(10000, 20000) })
	for i, c := range []struct {
		c                    api.Coat
		x                    api.Coating
		heat, current, least int
		want                 api.Range
	}{
		{coatK(), fresh(coatK()), 300, 0, 0, one(5000)}, {coatK(), fresh(coatK()), 300, 0, 1, none},
		{coatK(), some, 1000, 0, 0, one(5000)}, {coatK(), some, 1000, 0, 101, none}, {coatK(), some, 1000, 0, 100, of(0, 5000)}, {coatK(), some, 1000, 0, 99, of(1, 5000)}, {coatK(), some, 1000, 0, 90, of(10, 5000)}, {coatK(), some, 1000, 0, 1, of(99, 5000)},
		{coatK(), some, 999, 0, 100, one(5000)}, {coatK(), some, 999, 0, 101, none}, {coatK(), worn, 1000, 0, 90, of(10, 5000)},
		// It takes two ticks to come to the heat; the coating before the first tick is not looked at.
		{coatK(), warm, 1000, 0, 90, of(11, 5000)}, {coatK(), warm, 1000, 0, 100, of(1, 5000)},
		// The least barium is 10, 18, 25 (of 81 oxide 8 are reduced); the greatest one 10, 19, 28.
		{coatK(), low, 1000, 0, 11, none}, {coatK(), low, 1000, 0, 1, of(75, 5000)}, {coatK(), low, 1000, 0, 10, of(66, 5000)},
		// The least barium is 980, 960, 940, 921; the greatest one 990, 981, 972, 963, 954, 945, 936.
		{falls, full, 1000, 0, 991, none}, {falls, full, 1000, 0, 990, of(0, 1)}, {falls, full, 1000, 0, 981, of(0, 2)}, {falls, full, 1000, 0, 980, of(1, 2)}, {falls, full, 1000, 0, 960, of(2, 4)}, {falls, full, 1000, 0, 940, of(3, 6)}, {falls, full, 999, 0, 1000, one(5000)},
	} {
		if r, e := Life(c.c, c.x, c.heat, c.current, c.least); r != c.want || e != api.OK {
			t.Error(i, r, e)
		}
	}
}

// P3.4: lives are those of ticks that are looked at one by one.
func TestLifeIsThatOfTicks(t *testing.T) {
	d := dice(5)
	long := 0
	for i := range 1000 {
		c := d.coat()
		x := d.coating(c)
		if i%4 == 0 { // so that it may last
			for k := range c.Bands {
				c.Bands[k].Evaporate = d.any(0, 900)
			}
		}
		x.Wear = d.any(0, api.MaxWear)
		heat, current, least := d.heat(), d.upTo(api.MaxFlow+1), d.upTo(max(1, x.Barium.Hi))
		r, e := Life(c, x, heat, current, least)
		if want := plainLife(c, x, heat, current, least); r != want || e != api.OK {
			t.Fatal(i, c, x, heat, current, least, r, want)
		}
		if r.Hi > 20 && r.Hi < 5000 {
			long++
		}
	}
	if long < 10 {
		t.Error(long)
	}
}

// plainLife goes through all ticks for each end.
func plainLife(c api.Coat, x api.Coating, heat, current, least int) api.Range {
	last := func(enough func(barium api.Range) bool) int {
		x := x
		for n := range 5000 {
			if x = plainTick(c, x, heat, current); !enough(x.Barium) {
				return n
			}
		}
		return 5000
	}
	return of(last(func(b api.Range) bool { return b.Lo >= least }), last(func(b api.Range) bool { return b.Hi >= least }))
}
