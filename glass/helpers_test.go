package glass

import (
	"slices"
	"testing"

	"thermion/api"
)

// dice makes numbers for tests that are the same in each run.
type dice uint64

// upTo returns a number from 0 to n - 1.
func (d *dice) upTo(n int) int {
	*d = *d*6364136223846793005 + 1442695040888963407
	return int(uint64(*d)>>33) % n
}

// from returns a number from least to most.
func (d *dice) from(least, most int) int { return least + d.upTo(most-least+1) }

// any returns a range of numbers from least to most.
func (d *dice) any(least, most int) api.Range {
	a, b := d.from(least, most), d.from(least, most)
	return of(min(a, b), max(a, b))
}

// in returns a range within r.
func (d *dice) in(r api.Range) api.Range { return d.any(r.Lo, r.Hi) }

// of a range returns one of its numbers, often its first or last one.
func (d *dice) of(r api.Range) int { return []int{r.Lo, r.Hi, d.from(r.Lo, r.Hi)}[d.upTo(3)] }

// heat returns a heat, often one that is not far from 0.
func (d *dice) heat() int { return d.upTo([]int{40, 900, api.MaxHeat + 1}[d.upTo(3)]) }

// relax returns a range of a part that relaxes: none, all, or something between.
func (d *dice) relax() api.Range {
	switch d.upTo(6) {
	case 0:
		return none
	case 1:
		return one(api.Million)
	case 2:
		return d.any(0, api.Million)
	}
	return d.any(0, []int{9, 3000, 100000}[d.upTo(3)])
}

// stuff returns a valid stuff.
func (d *dice) stuff() api.Stuff {
	s := api.Stuff{Break: d.from(1, []int{9, 3000, 400000, api.MaxBreak}[d.upTo(4)])}
	from, apart := 0, []int{3, 30, 120}[d.upTo(3)]
	most := []int{3, 900, api.MaxGrow}[d.upTo(3)]
	for range d.from(1, []int{1, 3, api.MaxBands}[d.upTo(3)]) {
		z := zone(from, d.any(0, most), d.relax())
		if d.upTo(2) == 0 {
			z.Grow.Hi = min(z.Grow.Hi, z.Grow.Lo+most/50)
		}
		s.Zones = append(s.Zones, z)
		from += d.from(1, apart)
	}
	return s
}

// stuffIn returns a stuff with zones within those of s.
func (d *dice) stuffIn(s api.Stuff) api.Stuff {
	in := api.Stuff{Break: s.Break}
	for _, z := range s.Zones {
		in.Zones = append(in.Zones, zone(z.From, d.in(z.Grow), d.in(z.Relax)))
	}
	return in
}

// oven returns a valid programme of at most so many legs with at most so many ticks.
func (d *dice) oven(legs, ticks int) api.Oven {
	o := oven(d.heat())
	for range d.upTo(legs + 1) {
		o.Legs = append(o.Legs, leg(d.heat(), d.from(1, ticks)))
	}
	return o
}

// fires returns valid fires, at most so many.
func (d *dice) fires(most int) []api.Fire {
	l := make([]api.Fire, d.upTo(most+1))
	few, wide := d.from(3, 20), d.from(1, 30)
	for own := range l {
		l[own] = fire(900+d.upTo(wide), 900+d.upTo(2*wide))
		for other := range l {
			if other != own && d.upTo(few) == 0 {
				l[own].After = append(l[own].After, other)
			}
		}
	}
	return l
}

// limit returns a strain that may be, of those that come about in a wall.
func (d *dice) limit(s api.Stuff) int {
	return []int{0, d.upTo(s.Break) + 1, api.MaxStrain, d.upTo(100000)}[d.upTo(4)]
}

// stuffs calls f with valid stuffs of many kinds.
func stuffs(t *testing.T, seed dice, count int, f func(d *dice, s api.Stuff)) {
	t.Helper()
	d := &seed
	for i := range count {
		s := d.stuff()
		f(d, s)
		if t.Failed() {
			t.Fatal("case ", i, ": ", s)
		}
	}
}

// walls calls f with valid walls and programmes of many kinds.
func walls(t *testing.T, seed dice, count int, f func(d *dice, s api.Stuff, thick int, o api.Oven)) {
	t.Helper()
	stuffs(t, seed, count, func(d *dice, s api.Stuff) {
		thick := d.from(1, []int{1, 9, api.MaxThick}[d.upTo(3)])
		o := d.oven([]int{1, 4, 7}[d.upTo(3)], []int{1, 9, 40}[d.upTo(3)])
		f(d, s, thick, o)
		if t.Failed() {
			t.Error(thick, o)
		}
	})
}

// firesAll calls f with valid fires of many kinds.
func firesAll(t *testing.T, seed dice, count, most int, f func(d *dice, l []api.Fire)) {
	t.Helper()
	d := &seed
	for i := range count {
		l := d.fires(most)
		f(d, l)
		if t.Failed() {
			t.Fatal("case ", i, ": ", l)
		}
	}
}

// plainZone looks at each zone for the last one that is not above the heat.
func plainZone(s api.Stuff, heat int) api.Zone {
	var found api.Zone
	for _, z := range s.Zones {
		if z.From <= heat {
			found = z
		}
	}
	return found
}

// plainGrowth adds up kelvin by kelvin.
func plainGrowth(s api.Stuff, a, b int) api.Range {
	var sum api.Range
	for t := min(a, b); t < max(a, b); t++ {
		z := plainZone(s, t)
		sum.Lo += z.Grow.Lo
		sum.Hi += z.Grow.Hi
	}
	if b < a {
		return of(-sum.Hi, -sum.Lo)
	}
	return sum
}

// plainMismatch is one growth less the other one.
func plainMismatch(x, y api.Stuff, set, heat int) api.Range {
	a, b := plainGrowth(x, set, heat), plainGrowth(y, set, heat)
	return of(a.Lo-b.Hi, a.Hi-b.Lo)
}

// plainSeal looks at all heats, for breaking first.
func plainSeal(x, y api.Stuff, set, from int) (verdict, heat int) {
	limit := min(x.Break, y.Break)
	for t := set; t >= from; t-- {
		if m := plainMismatch(x, y, set, t); m.Lo > limit || m.Hi < -limit {
			return api.Never, t
		}
	}
	for t := set; t >= from; t-- {
		if m := plainMismatch(x, y, set, t); m.Lo < -limit || m.Hi > limit {
			return api.Unsure, t
		}
	}
	return api.Sure, 0
}

// plainHeats returns the heats of a programme, the first one and that after each tick, and the leg of each tick.
func plainHeats(o api.Oven) (heats, legs []int) {
	heats = []int{o.From}
	begin := o.From
	for n, l := range o.Legs {
		for i := 1; i <= l.Ticks; i++ {
			heats = append(heats, begin+floor((l.Heat-begin)*i, l.Ticks))
			legs = append(legs, n)
		}
		begin = l.Heat
	}
	return heats, legs
}

// floor and ceil divide by a number above 0, rounded towards one side.
func floor(a, b int) int {
	q := a / b
	for q*b > a {
		q--
	}
	return q
}

func ceil(a, b int) int { return -floor(-a, b) }

// plainStrains returns the bounds of the strain after each tick.
func plainStrains(s api.Stuff, thick int, o api.Oven) []api.Range {
	heats, _ := plainHeats(o)
	var r api.Range
	var all []api.Range
	for i := 1; i < len(heats); i++ {
		z := plainZone(s, heats[i])
		d := heats[i] - heats[i-1]
		if d < 0 {
			d = -d
		}
		r.Lo = r.Lo - ceil(r.Lo*z.Relax.Hi, 1000000) + floor(d*thick*z.Grow.Lo, 100)
		r.Hi = r.Hi - floor(r.Hi*z.Relax.Lo, 1000000) + ceil(d*thick*z.Grow.Hi, 100)
		r.Lo, r.Hi = min(r.Lo, 1<<40), min(r.Hi, 1<<40)
		all = append(all, r)
	}
	return all
}

// plainJudge looks at all ticks, for breaking first.
func plainJudge(s api.Stuff, thick int, o api.Oven, left int) (verdict, tick int) {
	all := plainStrains(s, thick, o)
	most := func(i int) int {
		if i == len(all)-1 && left < s.Break {
			return left
		}
		return s.Break
	}
	for i, r := range all {
		if r.Lo > most(i) {
			return api.Never, i + 1
		}
	}
	for i, r := range all {
		if r.Hi > most(i) {
			return api.Unsure, i + 1
		}
	}
	return api.Sure, 0
}

// plainRight looks at each fire and at all before it.
func plainRight(l []api.Fire, order []int) bool {
	for i, n := range order {
		for _, other := range l[n].After {
			if !slices.Contains(order[:i], other) {
				return false
			}
		}
		for _, other := range order[:i] {
			if l[n].Heat > l[other].Hold {
				return false
			}
		}
	}
	return true
}

// permutations returns all orders of n numbers, in lexicographic order.
func permutations(n int) [][]int {
	all := [][]int{nil}
	for range n {
		var longer [][]int
		for _, l := range all {
			for k := range n {
				if !slices.Contains(l, k) {
					longer = append(longer, append(slices.Clone(l), k))
				}
			}
		}
		all = longer
	}
	return all
}

// of makes a range, one that of one number.
func of(lo, hi int) api.Range { return api.Range{Lo: lo, Hi: hi} }
func one(n int) api.Range     { return of(n, n) }

// none is the range that comes with errors.
var none api.Range

// zone makes a zone, leg a leg, fire a fire.
func zone(from int, grow, relax api.Range) api.Zone {
	return api.Zone{From: from, Grow: grow, Relax: relax}
}

func leg(heat, ticks int) api.Leg { return api.Leg{Ticks: ticks, Heat: heat} }

func fire(heat, hold int, after ...int) api.Fire {
	return api.Fire{Heat: heat, Hold: hold, After: after}
}

// stuffG, stuffM and firesF are the stuffs and the fires of the chapter's examples.
func stuffG() api.Stuff {
	return api.Stuff{Break: 500000, Zones: []api.Zone{zone(0, of(9000, 10000), none), zone(700, one(20000), one(500000))}}
}

func stuffM() api.Stuff {
	return api.Stuff{Break: 2000000, Zones: []api.Zone{zone(0, one(9500), none)}}
}

func firesF() []api.Fire {
	return []api.Fire{fire(900, 1000), fire(1000, 1100), fire(950, 950, 0)}
}

// oven makes a programme.
func oven(from int, legs ...api.Leg) api.Oven { return api.Oven{From: from, Legs: legs} }

// plainStuff makes a stuff with one zone.
func plainStuff(limit int, grow, relax api.Range) api.Stuff {
	return api.Stuff{Break: limit, Zones: []api.Zone{zone(0, grow, relax)}}
}

// changed returns a thing that was changed.
func changed[T any](x T, change func(x *T)) T {
	change(&x)
	return x
}

// isRangeIn reports whether a range lies within another one.
func isRangeIn(a, b api.Range) bool { return b.Lo <= a.Lo && a.Hi <= b.Hi }

// grown returns the result of Growth, which must not be an error.
func grown(t *testing.T, s api.Stuff, from, to int) api.Range {
	t.Helper()
	r, e := Growth(s, from, to)
	if e != api.OK {
		t.Fatal(s, from, to, e)
	}
	return r
}

// mismatched returns the result of Mismatch, which must not be an error.
func mismatched(t *testing.T, x, y api.Stuff, set, heat int) api.Range {
	t.Helper()
	r, e := Mismatch(x, y, set, heat)
	if e != api.OK {
		t.Fatal(x, y, set, heat, e)
	}
	return r
}

// sealed returns the result of Seal, which must not be an error.
func sealed(t *testing.T, x, y api.Stuff, set, from int) (verdict, heat int) {
	t.Helper()
	verdict, heat, e := Seal(x, y, set, from)
	if e != api.OK {
		t.Fatal(x, y, set, from, e)
	}
	return verdict, heat
}

// judged returns the result of Judge, which must not be an error.
func judged(t *testing.T, s api.Stuff, thick int, o api.Oven, left int) (verdict, tick int) {
	t.Helper()
	verdict, tick, e := Judge(s, thick, o, left)
	if e != api.OK {
		t.Fatal(s, thick, o, left, e)
	}
	return verdict, tick
}

// lastStrain returns the bounds of the strain after a programme.
func lastStrain(t *testing.T, s api.Stuff, thick int, o api.Oven) api.Range {
	t.Helper()
	l, e := Strain(s, thick, o)
	if e != api.OK {
		t.Fatal(s, thick, o, e)
	}
	if len(l) == 0 {
		return none
	}
	return l[len(l)-1]
}
