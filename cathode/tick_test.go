package cathode

import (
	"testing"

	"thermion/api"
)

// P3.2: the fresh coating.
func TestFresh(t *testing.T) {
	for _, n := range []int{1, 1000, 1000000} {
		x, e := Fresh(changed(coatK(), func(c *api.Coat) { c.Amount = n }))
		if x != (api.Coating{Carbonate: one(n), Heat: 300}) || e != api.OK {
			t.Error(n, x, e)
		}
	}
}

// P3.2: heats and currents that are not right, and a wear that would be too great.
func TestTickErrors(t *testing.T) {
	worn := func(lo, hi, heat int) api.Coating { return api.Coating{Wear: of(lo, hi), Heat: heat} }
	for i, c := range []struct {
		x             api.Coating
		heat, current int
		want          api.Errno
	}{
		{secondK(), 0, 0, api.OK}, {secondK(), 2000, 1000, api.OK},
		{secondK(), -1, 0, api.ErrRange}, {secondK(), 2001, 0, api.ErrRange}, {secondK(), 0, -1, api.ErrRange}, {secondK(), 0, 1001, api.ErrRange},
		// The wear rises by 1 to 2 from the heat 1000 on.
		{worn(0, 1<<40-2, 1000), 1000, 0, api.OK}, {worn(0, 1<<40-1, 1000), 1000, 0, api.ErrFull}, {worn(0, 1<<40, 1000), 1000, 0, api.ErrFull},
		{worn(1<<40, 1<<40, 1000), 999, 0, api.OK}, {worn(0, 1<<40-1, 600), 1000, 0, api.ErrFull}, {worn(0, 1<<40-1, 599), 1000, 0, api.OK},
		{worn(0, 1<<40, 1000), 2001, 0, api.ErrRange}, {worn(0, 1<<40, 1000), 1000, 1001, api.ErrRange},
	} {
		if x, e := Tick(coatK(), c.x, c.heat, c.current); e != c.want || e != api.OK && x != (api.Coating{}) {
			t.Error(i, x, e)
		}
	}
}

// P3.2, P3.15: the heat moves towards the one that is asked for.
func TestHeat(t *testing.T) {
	for i, c := range []struct{ from, asked, slew, want int }{
		{300, 1100, 400, 700}, {300, 700, 400, 700}, {300, 699, 400, 699}, {300, 701, 400, 700}, {300, 300, 400, 300}, {300, 0, 400, 0}, {1500, 0, 400, 1100}, {1500, 1100, 400, 1100}, {1500, 1099, 400, 1100},
		{1500, 1101, 400, 1101}, {0, 2000, 1, 1}, {2000, 0, 1, 1999}, {0, 2000, 2000, 2000}, {2000, 0, 2000, 0}, {2000, 2000, 1, 2000}, {0, 0, 2000, 0},
	} {
		k := changed(coatK(), func(k *api.Coat) { k.Slew = c.slew })
		if y := ticked(t, k, api.Coating{Heat: c.from}, c.asked, 0); y != (api.Coating{Heat: c.want, Wear: y.Wear}) {
			t.Error(i, y)
		}
	}
}

// P3.2: the band is that of the heat after it has moved, and the last one that is not above it.
func TestBand(t *testing.T) {
	k := coatK()
	k.Slew, k.Bands = 100, []api.Band{{}, {From: 1, Sinter: one(1)}, {From: 300, Sinter: one(2)}, {From: 1999, Sinter: one(3)}, {From: 2000, Sinter: one(4)}}
	for _, c := range []struct{ from, asked, wear int }{
		{0, 0, 0}, {1, 1, 1}, {299, 299, 1}, {300, 300, 2}, {300, 299, 1}, {299, 300, 2}, {1998, 1998, 2}, {1999, 1999, 3}, {2000, 2000, 4}, {1900, 2000, 4}, {1899, 2000, 3}, {100, 0, 0}, {101, 0, 1},
	} {
		if y := ticked(t, k, api.Coating{Heat: c.from}, c.asked, 0); y.Wear != one(c.wear) {
			t.Error(c, y)
		}
	}
}

// P3.2: ticks that were found by hand.
func TestTick(t *testing.T) {
	helped := changed(coatK(), func(c *api.Coat) { c.Aid = of(400000, 500000) })
	narrow := changed(coatK(), func(c *api.Coat) { c.Aid, c.Bands[1].Convert = helped.Aid, of(150000, 150000) })
	all := changed(coatK(), func(c *api.Coat) {
		c.Bands = []api.Band{{Convert: of(250000, 1000000), Reduce: of(0, 1), Evaporate: one(1000000), Sinter: of(0, 1000000)}}
	})
	some := api.Coating{Carbonate: of(10, 20), Oxide: of(100, 101), Barium: one(50), Lost: of(1, 999), Gas: one(7), Wear: one(9), Heat: 1000}
	for i, c := range []struct {
		c             api.Coat
		x             api.Coating
		heat, current int
		want          api.Coating
	}{
		{coatK(), fresh(coatK()), 1100, 0, api.Coating{Carbonate: one(1000), Heat: 700}},
		{coatK(), fresh(coatK()), 0, 1000, api.Coating{Carbonate: one(1000)}},
		// No gas comes below 1000, and nothing of what came stays in Gas.
		{coatK(), some, 999, 1000, changed(some, func(x *api.Coating) { x.Gas, x.Heat = none, 999 })},
		{coatK(), some, 1000, 0, api.Coating{Carbonate: of(8, 18), Oxide: of(91, 95), Barium: of(59, 61), Lost: of(1, 1000), Gas: of(1, 4), Wear: of(10, 11), Heat: 1000}},
		{helped, some, 1000, 0, api.Coating{Carbonate: of(8, 18), Oxide: of(91, 95), Barium: of(59, 61), Lost: of(1, 1000), Gas: of(1, 4), Wear: of(10, 11), Heat: 1000}},
		// The rates of reducing are 500000 to 600000, 900000 to 1000000 (1100000), and 1000000 both.
		{helped, some, 1000, 1, api.Coating{Carbonate: of(8, 18), Oxide: of(41, 55), Barium: of(99, 111), Lost: of(1, 1000), Gas: of(1, 4), Wear: of(10, 11), Heat: 1000}},
		{helped, some, 1000, 2, api.Coating{Carbonate: of(8, 18), Oxide: of(1, 15), Barium: of(139, 151), Lost: of(1, 1000), Gas: of(1, 4), Wear: of(10, 11), Heat: 1000}},
		{helped, some, 1000, 3, api.Coating{Carbonate: of(8, 18), Oxide: of(1, 4), Barium: of(149, 151), Lost: of(1, 1000), Gas: of(1, 4), Wear: of(10, 11), Heat: 1000}},
		{helped, some, 1000, 1000, api.Coating{Carbonate: of(8, 18), Oxide: of(1, 4), Barium: of(149, 151), Lost: of(1, 1000), Gas: of(1, 4), Wear: of(10, 11), Heat: 1000}},
		// Of 10 it is 1 or 2, of 20 it is 3.
		{narrow, some, 1000, 3, api.Coating{Carbonate: of(8, 17), Oxide: of(1, 3), Barium: of(149, 151), Lost: of(1, 1000), Gas: of(1, 3), Wear: of(10, 11), Heat: 1000}},
		// Everything may go, or a part of it.
		{all, some, 1000, 0, api.Coating{Carbonate: of(0, 15), Oxide: of(101, 121), Barium: of(0, 1), Lost: of(51, 1000), Gas: of(2, 20), Wear: of(9, 1000009), Heat: 1000}},
		// What would be more than the amount is no more than it.
		{coatK(), api.Coating{Carbonate: one(1000), Oxide: one(1000), Barium: one(1000), Lost: one(1000), Heat: 1000}, 1000, 0, api.Coating{Carbonate: of(800, 900), Oxide: of(1000, 1000), Barium: of(1090, 1000), Lost: of(1000, 1000), Gas: of(100, 200), Wear: of(1, 2), Heat: 1000}},
		{coatK(), api.Coating{Heat: 300}, 300, 0, api.Coating{Heat: 300}},
	} {
		if y := ticked(t, c.c, c.x, c.heat, c.current); y != c.want {
			t.Error(i, y, c.want)
		}
	}
}

// P3.2: ticks are those of the chapter's table, also with the greatest numbers.
func TestTickIsThatOfTheTable(t *testing.T) {
	d := dice(1)
	for i := range 40000 {
		c := d.coat()
		x := d.coating(c)
		heat, current := d.heat(), d.upTo(2)*d.upTo(api.MaxFlow+1)
		if y, want := ticked(t, c, x, heat, current), plainTick(c, x, heat, current); y != want {
			t.Fatal(i, c, x, heat, current, y, want)
		}
	}
	most := api.Band{Convert: one(api.Million), Reduce: one(api.Million), Evaporate: one(api.Million), Sinter: one(api.Million)}
	c := api.Coat{Amount: api.MaxAmount, Slew: api.MaxHeat, Aid: one(api.Million), Yield: one(api.Million), Bands: []api.Band{most}}
	x := api.Coating{Carbonate: one(api.MaxAmount), Oxide: one(api.MaxAmount), Barium: one(api.MaxAmount), Lost: one(api.MaxAmount), Gas: one(api.MaxAmount), Wear: one(api.MaxWear - api.Million)}
	want := api.Coating{Oxide: one(api.MaxAmount), Barium: one(api.MaxAmount), Lost: of(2*api.MaxAmount, api.MaxAmount), Gas: one(api.MaxAmount), Wear: one(api.MaxWear), Heat: api.MaxHeat}
	if y := ticked(t, c, x, api.MaxHeat, api.MaxFlow); y != want {
		t.Error(y)
	}
}

// P3.4: emissions.
func TestEmission(t *testing.T) {
	for i, c := range []struct{ barium, yield, want api.Range }{
		{of(26, 56), one(500000), of(13, 28)}, {of(27, 57), one(500000), of(13, 29)}, {of(26, 56), none, none}, {of(26, 56), one(1000000), of(26, 56)}, {of(26, 56), of(1, 999999), of(0, 56)},
		{none, one(1000000), none}, {one(1000), of(1, 1), of(0, 1)}, {one(1000), of(999, 1001), of(0, 2)}, {of(0, 1000), of(1000, 1000000), of(0, 1000)},
	} {
		k := changed(coatK(), func(k *api.Coat) { k.Yield = c.yield })
		x := changed(secondK(), func(x *api.Coating) { x.Barium = c.barium })
		if r, e := Emission(k, x); r != c.want || e != api.OK {
			t.Error(i, r, e)
		}
	}
}
