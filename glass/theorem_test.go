package glass

import (
	"slices"
	"testing"

	"thermion/api"
)

// truth is by how much a stuff truly grows in each kelvin.
type truth []int

// truth returns numbers of a stuff's Grow for each kelvin.
func (d *dice) truth(s api.Stuff) truth {
	var l truth
	side := d.upTo(3) // some stuffs grow as little, or as much, as they can in each kelvin
	for t := range api.MaxHeat {
		r := plainZone(s, t).Grow
		l = append(l, []int{r.Lo, r.Hi, d.of(r)}[side])
	}
	return l
}

// from returns what truly grows from one heat to another one.
func (l truth) from(a, b int) int {
	if b < a {
		return -l.from(b, a)
	}
	sum := 0
	for _, n := range l[a:b] {
		sum += n
	}
	return sum
}

// P5.7 (growth), P0: two growths, one behind the other, are together that of the whole; what truly grows lies within.
func TestGrowthsAdded(t *testing.T) {
	stuffs(t, 10, 1000, func(d *dice, s api.Stuff) {
		a, c := d.heat(), d.heat()
		b := d.from(min(a, c), max(a, c))
		for _, b := range []int{a, b, c} {
			x, y := grown(t, s, a, b), grown(t, s, b, c)
			if r := grown(t, s, a, c); r != of(x.Lo+y.Lo, x.Hi+y.Hi) {
				t.Error(a, b, c, x, y, r)
			}
		}
		if r, n := grown(t, s, a, c), d.truth(s).from(a, c); !isRangeIn(one(n), r) {
			t.Error(a, c, n, r)
		}
	})
}

// P5.8: mismatches from the other side; none at the heat of setting, nor of a stuff that is known exactly with itself.
func TestMismatches(t *testing.T) {
	stuffs(t, 11, 1500, func(d *dice, x api.Stuff) {
		y, set, heat := d.stuff(), d.heat(), d.heat()
		a, b := mismatched(t, x, y, set, heat), mismatched(t, y, x, set, heat)
		if a != of(-b.Hi, -b.Lo) || a.Lo > a.Hi {
			t.Error(y, set, heat, a, b)
		}
		if r := mismatched(t, x, y, set, set); r != none {
			t.Error(y, set, r)
		}
		for i, z := range x.Zones {
			x.Zones[i].Grow = one(z.Grow.Lo)
		}
		if r := mismatched(t, x, x, set, heat); r != none {
			t.Error(set, heat, r)
		}
		if v, _ := sealed(t, x, x, set, 0); v != api.Sure {
			t.Error(set, v)
		}
	})
}

// P5.9, P0: what truly grows keeps the limit at each heat if the verdict is Sure, and does not at the heat that is said if it is Never; it lies within the mismatch.
func TestSealsInTruth(t *testing.T) {
	count := map[int]int{}
	stuffs(t, 12, 1500, func(d *dice, x api.Stuff) {
		y := d.stuffIn(x)
		if d.upTo(2) == 0 {
			y = d.stuff()
		}
		if d.upTo(2) == 0 {
			x.Break, y.Break = d.from(1, 3000), d.from(1, 3000)
		}
		set := d.heat()
		from := set - d.upTo(min(set, 100)+1)
		limit := min(x.Break, y.Break)
		v, heat := sealed(t, x, y, set, from)
		count[v]++
		grow, other := d.truth(x), d.truth(y)
		for at := from; at <= set; at++ {
			m := grow.from(set, at) - other.from(set, at)
			keeps := -limit <= m && m <= limit
			if !keeps && v == api.Sure || keeps && v == api.Never && at == heat {
				t.Error(y, set, from, v, heat, at, m)
			}
			if at%10 == 0 && !isRangeIn(one(m), mismatched(t, x, y, set, at)) {
				t.Error(y, set, at, m)
			}
		}
	})
	if count[api.Sure] < 200 || count[api.Never] < 200 || count[api.Unsure] < 50 {
		t.Error(count)
	}
}

// P5.10, P0: with narrower zones growth, mismatch and strain lie within what they were, and verdicts that are Sure or Never stay.
func TestNarrowerZones(t *testing.T) {
	seals, walls := map[int]int{}, map[int]int{}
	stuffs(t, 13, 2500, func(d *dice, s api.Stuff) {
		in, a, b := d.stuffIn(s), d.heat(), d.heat()
		if r, wide := grown(t, in, a, b), grown(t, s, a, b); !isRangeIn(r, wide) {
			t.Error(in, a, b, r, wide)
		}
		y := d.stuff()
		if r, wide := mismatched(t, in, y, a, b), mismatched(t, s, y, a, b); !isRangeIn(r, wide) {
			t.Error(in, y, a, b, r, wide)
		}
		set, from := max(a, b), max(min(a, b), max(a, b)-50)
		v, _ := sealed(t, s, y, set, from)
		w, _ := sealed(t, in, d.stuffIn(y), set, from)
		if seals[v]++; v != api.Unsure && v != w {
			t.Error(in, y, set, from, v, w)
		}
		thick, o, left := d.from(1, 50), d.oven(4, 9), d.limit(s)
		narrow, _ := Strain(in, thick, o)
		wide, _ := Strain(s, thick, o)
		for i := range narrow {
			if !isRangeIn(narrow[i], wide[i]) || wide[i].Lo > wide[i].Hi {
				t.Error(in, thick, o, narrow, wide)
			}
		}
		v, _ = judged(t, s, thick, o, left)
		w, _ = judged(t, in, thick, o, left)
		if walls[v]++; v != api.Unsure && v != w {
			t.Error(in, thick, o, left, v, w)
		}
	})
	for _, count := range []map[int]int{seals, walls} {
		if count[api.Sure] < 100 || count[api.Never] < 100 || count[api.Unsure] < 50 {
			t.Error(count)
		}
	}
}

// trueStrains returns strains that are possible in truth, after each tick.
func (d *dice) trueStrains(s api.Stuff, thick int, o api.Oven) []int {
	heats, _ := plainHeats(o)
	x := 0
	var all []int
	for i := 1; i < len(heats); i++ {
		z := plainZone(s, heats[i])
		x -= d.of(of(floor(x*z.Relax.Lo, 1000000), ceil(x*z.Relax.Hi, 1000000)))
		pull := max(heats[i]-heats[i-1], heats[i-1]-heats[i]) * thick
		x += d.of(of(floor(pull*z.Grow.Lo, 100), ceil(pull*z.Grow.Hi, 100)))
		x = min(x, 1<<40)
		all = append(all, x)
	}
	return all
}

// P5.11 (strain), P0: strains that are possible lie within the bounds; they keep what is asked for if the verdict is Sure, and do not if it is Never.
func TestStrainsInTruth(t *testing.T) {
	count := map[int]int{}
	walls(t, 14, 4000, func(d *dice, s api.Stuff, thick int, o api.Oven) {
		left := d.limit(s)
		verdict, _ := judged(t, s, thick, o, left)
		count[verdict]++
		all := d.trueStrains(s, thick, o)
		_, legs := plainHeats(o)
		bounds, _ := Strain(s, thick, o)
		keeps := true
		for i, x := range all {
			last := i == len(all)-1
			keeps = keeps && x <= s.Break && (!last || x <= left)
			if (last || legs[i] != legs[i+1]) && !isRangeIn(one(x), bounds[legs[i]]) {
				t.Error(i, x, bounds)
			}
		}
		if keeps && verdict == api.Never || !keeps && verdict == api.Sure {
			t.Error(left, verdict, all)
		}
		// The bounds after a tick are those after a leg that ends with it.
		if len(all) > 0 {
			cut, n := cutAt(o, d.from(1, len(all)))
			if r := lastStrain(t, s, thick, cut); ticksOf(cut) == n && !isRangeIn(one(all[n-1]), r) {
				t.Error(cut, n, all, r)
			}
		}
	})
	if count[api.Sure] < 200 || count[api.Never] < 200 || count[api.Unsure] < 100 {
		t.Error(count)
	}
}

// cutAt returns a programme of single ticks with the first n heats of another one, and n.
func cutAt(o api.Oven, n int) (api.Oven, int) {
	heats, _ := plainHeats(o)
	cut := oven(o.From)
	n = min(n, api.MaxLegs)
	for _, h := range heats[1 : n+1] {
		cut.Legs = append(cut.Legs, leg(h, 1))
	}
	return cut, n
}

// P5.12, P5.13: a thicker wall never has less strain; with more that may be left Sure stays Sure.
func TestThickerWalls(t *testing.T) {
	sure := 0
	walls(t, 15, 3000, func(d *dice, s api.Stuff, thick int, o api.Oven) {
		thicker := d.from(thick, api.MaxThick)
		a, _ := Strain(s, thick, o)
		b, _ := Strain(s, thicker, o)
		for i := range a {
			if b[i].Lo < a[i].Lo || b[i].Hi < a[i].Hi {
				t.Error(thicker, i, a, b)
			}
		}
		left := d.limit(s)
		more := []int{left, d.from(left, api.MaxStrain), api.MaxStrain}[d.upTo(3)]
		v, _ := judged(t, s, thick, o, left)
		w, _ := judged(t, s, thick, o, more)
		if v == api.Sure && w != api.Sure || v != api.Never && w == api.Never {
			t.Error(left, more, v, w)
		}
		if v == api.Sure {
			sure++
		}
	})
	if sure < 300 {
		t.Error(sure)
	}
}

// P5.14: after soaking by the Hi of the ticks a possible strain is at most the limit, and before the Lo of them it is not; Lo is at most Hi; with a greater limit neither is greater.
func TestSoakingInTruth(t *testing.T) {
	ended := 0
	stuffs(t, 16, 2500, func(d *dice, s api.Stuff) {
		r := d.any(0, []int{9, 5000, api.MaxStrain}[d.upTo(3)])
		heat, limit := d.heat(), d.upTo(r.Hi+1)
		ticks, e := Soak(s, r, heat, limit)
		if e != api.OK || ticks.Lo > ticks.Hi || ticks.Lo < 0 || ticks.Hi > api.MaxSoak+1 {
			t.Error(r, heat, limit, ticks, e)
		}
		if less, e := Soak(s, r, heat, d.from(limit, api.MaxStrain)); e != api.OK || less.Lo > ticks.Lo || less.Hi > ticks.Hi {
			t.Error(r, heat, limit, ticks, less, e)
		}
		if ticks.Hi <= api.MaxSoak {
			ended++
		}
		x := d.of(r)
		z := plainZone(s, heat)
		for n := range min(ticks.Hi, 300) + 1 {
			if x <= limit && n < ticks.Lo || x > limit && n == ticks.Hi && n <= api.MaxSoak {
				t.Error(r, heat, limit, ticks, n, x)
			}
			x -= d.of(of(floor(x*z.Relax.Lo, 1000000), ceil(x*z.Relax.Hi, 1000000)))
		}
	})
	if ended < 500 {
		t.Error(ended)
	}
}

// P5.16: if a fire holds more, no right order becomes wrong; without After, and if all fires hold the greatest heat, all orders are right.
func TestFiresThatHoldMore(t *testing.T) {
	kept := 0
	firesAll(t, 17, 1500, 5, func(d *dice, l []api.Fire) {
		more := slices.Clone(l)
		easy := slices.Clone(l)
		greatest := 0
		for _, f := range l {
			greatest = max(greatest, f.Heat)
		}
		for i := range l {
			more[i].Hold = d.from(l[i].Hold, api.MaxHeat)
			easy[i].After, easy[i].Hold = nil, greatest
		}
		all := permutations(len(l))
		for _, order := range all {
			is := Right(l, order)
			if is && !Right(more, order) || !Right(easy, order) {
				t.Error(order, more, easy)
			}
			if is {
				kept++
			}
		}
		a, _ := Count(l)
		b, _ := Count(more)
		if c, e := Count(easy); a > b || b > c || c != len(all) || e != api.OK {
			t.Error(a, b, c, e)
		}
	})
	if kept < 1000 {
		t.Error(kept)
	}
}
