package cathode

import (
	"testing"

	"thermion/api"
)

// dice makes numbers for tests that are the same in each run.
type dice uint64

// upTo returns a number from 0 to n - 1.
func (d *dice) upTo(n int) int {
	*d = *d*6364136223846793005 + 1442695040888963407
	return int(uint64(*d)>>33) % n
}

// from returns a number from least to most.
func (d *dice) from(least, most int) int { return least + d.upTo(most-least+1) }

// any returns a range of numbers from least to most.
func (d *dice) any(least, most int) api.Range {
	a, b := d.from(least, most), d.from(least, most)
	return of(min(a, b), max(a, b))
}

// in returns a range within r.
func (d *dice) in(r api.Range) api.Range { return d.any(r.Lo, r.Hi) }

// rate returns a range of a rate: 0, the whole, a narrow one, or one that is as wide as can be.
func (d *dice) rate() api.Range {
	switch d.upTo(8) {
	case 0:
		return none
	case 1:
		return one(api.Million)
	case 2:
		return d.any(0, api.Million)
	case 3:
		return one(d.upTo(api.Million))
	}
	return d.any(0, []int{9, 3000, 100000}[d.upTo(3)])
}

// coat returns a valid coat.
func (d *dice) coat() api.Coat {
	c := api.Coat{Amount: d.from(1, []int{1, 9, 1000, api.MaxAmount}[d.upTo(4)]), Slew: d.from(1, []int{9, 500, api.MaxHeat}[d.upTo(3)])}
	c.Aid, c.Yield = d.any(0, []int{0, 500, api.Million}[d.upTo(3)]), d.rate()
	from := 0
	for range d.from(1, []int{2, 6, api.MaxBands}[d.upTo(3)]) {
		c.Bands = append(c.Bands, api.Band{From: from, Convert: d.rate(), Reduce: d.rate(), Evaporate: d.rate(), Sinter: d.rate()})
		from += d.from(1, 120)
	}
	return c
}

// coatIn returns a coat with rates within those of c.
func (d *dice) coatIn(c api.Coat) api.Coat {
	c = Copy(c)
	c.Aid = d.in(c.Aid)
	for i, b := range c.Bands {
		c.Bands[i] = api.Band{From: b.From, Convert: d.in(b.Convert), Reduce: d.in(b.Reduce), Evaporate: d.in(b.Evaporate), Sinter: d.in(b.Sinter)}
	}
	return c
}

// coating returns a valid coating of a coat; one of a kind that may truly be, or any one.
func (d *dice) coating(c api.Coat) api.Coating {
	part := []int{c.Amount, c.Amount / 4}[d.upTo(2)]
	return api.Coating{
		Carbonate: d.any(0, part), Oxide: d.any(0, part), Barium: d.any(0, part), Lost: d.any(0, part), Gas: d.any(0, part),
		Wear: d.any(0, []int{0, 9, 1 << 30}[d.upTo(3)]), Heat: d.upTo(api.MaxHeat + 1),
	}
}

// schedule returns a valid schedule of at most so many heatings with at most so many ticks.
func (d *dice) schedule(heatings, ticks int) []api.Heating {
	var l []api.Heating
	for range d.upTo(heatings + 1) {
		l = append(l, api.Heating{Ticks: d.from(1, ticks), Heat: d.heat(), Current: d.upTo(3) * d.upTo(api.MaxFlow/2+1)})
	}
	return l
}

// heat returns a heat that can be asked for, often one that is not far from Room.
func (d *dice) heat() int { return d.upTo([]int{1, 900, api.MaxHeat + 1}[d.upTo(3)]) }

// demand returns a valid demand, whose numbers are near to those of a coat.
func (d *dice) demand(c api.Coat) api.Demand {
	some := func(most int) int { return []int{0, d.upTo(most + 1), most, api.MaxWear}[d.upTo(4)] }
	return api.Demand{Gas: some(c.Amount), Wear: some(9000), Lost: some(c.Amount), Rest: some(c.Amount), Barium: d.upTo(2) * d.upTo(c.Amount+1)}
}

// course returns a course that is possible for a coat and a schedule.
func (d *dice) course(c api.Coat, l []api.Heating) []api.Mix {
	m := api.Mix{Carbonate: c.Amount}
	course := []api.Mix{m}
	for _, b := range plainRates(c, l) {
		converted := d.part(m.Carbonate, b.Convert)
		reduced := d.part(m.Oxide, b.Reduce)
		evaporated := d.part(m.Barium, b.Evaporate)
		m = api.Mix{Carbonate: m.Carbonate - converted, Oxide: m.Oxide + converted - reduced, Barium: m.Barium + reduced - evaporated, Lost: m.Lost + evaporated}
		course = append(course, m)
	}
	return course
}

// part returns a number that a part may be; often the least or the greatest one.
func (d *dice) part(amount int, rate api.Range) int {
	least, most := down(amount*rate.Lo), up(amount*rate.Hi)
	return []int{least, most, d.from(least, most)}[d.upTo(3)]
}

// plainRates returns the rates of each tick of a schedule that begins with the heat Room.
func plainRates(c api.Coat, l []api.Heating) []api.Band {
	heat := 300
	var all []api.Band
	for _, h := range l {
		for range h.Ticks {
			heat = plainHeat(heat, h.Heat, c.Slew)
			all = append(all, plainBand(c, heat, h.Current))
		}
	}
	return all
}

// plainHeat moves a heat kelvin by kelvin.
func plainHeat(heat, asked, slew int) int {
	for n := 0; n < slew && heat != asked; n++ {
		if heat < asked {
			heat++
		} else {
			heat--
		}
	}
	return heat
}

// plainBand looks at each band for the last one that is not above the heat.
func plainBand(c api.Coat, heat, current int) api.Band {
	var found api.Band
	for _, b := range c.Bands {
		if b.From <= heat {
			found = b
		}
	}
	found.Reduce.Lo += current * c.Aid.Lo
	found.Reduce.Hi += current * c.Aid.Hi
	if found.Reduce.Lo > 1000000 {
		found.Reduce.Lo = 1000000
	}
	if found.Reduce.Hi > 1000000 {
		found.Reduce.Hi = 1000000
	}
	return found
}

// plainTick is a tick as the chapter's table has it.
func plainTick(c api.Coat, x api.Coating, heat, current int) api.Coating {
	y := api.Coating{Heat: plainHeat(x.Heat, heat, c.Slew)}
	b := plainBand(c, y.Heat, current)
	y.Gas.Lo = down(x.Carbonate.Lo * b.Convert.Lo)
	y.Gas.Hi = up(x.Carbonate.Hi * b.Convert.Hi)
	y.Carbonate.Lo = x.Carbonate.Lo - up(x.Carbonate.Lo*b.Convert.Hi)
	y.Carbonate.Hi = x.Carbonate.Hi - down(x.Carbonate.Hi*b.Convert.Lo)
	y.Oxide.Lo = x.Oxide.Lo - up(x.Oxide.Lo*b.Reduce.Hi) + y.Gas.Lo
	y.Oxide.Hi = x.Oxide.Hi - down(x.Oxide.Hi*b.Reduce.Lo) + y.Gas.Hi
	y.Barium.Lo = x.Barium.Lo - up(x.Barium.Lo*b.Evaporate.Hi) + down(x.Oxide.Lo*b.Reduce.Lo)
	y.Barium.Hi = x.Barium.Hi - down(x.Barium.Hi*b.Evaporate.Lo) + up(x.Oxide.Hi*b.Reduce.Hi)
	y.Lost.Lo = x.Lost.Lo + down(x.Barium.Lo*b.Evaporate.Lo)
	y.Lost.Hi = x.Lost.Hi + up(x.Barium.Hi*b.Evaporate.Hi)
	y.Wear.Lo = x.Wear.Lo + b.Sinter.Lo
	y.Wear.Hi = x.Wear.Hi + b.Sinter.Hi
	for _, hi := range []*int{&y.Carbonate.Hi, &y.Oxide.Hi, &y.Barium.Hi, &y.Lost.Hi, &y.Gas.Hi} {
		if *hi > c.Amount {
			*hi = c.Amount
		}
	}
	return y
}

// plainRun returns the fresh coating and what it is after each tick of a schedule.
func plainRun(c api.Coat, l []api.Heating) []api.Coating {
	x := api.Coating{Carbonate: one(c.Amount), Heat: 300}
	all := []api.Coating{x}
	for _, h := range l {
		for range h.Ticks {
			x = plainTick(c, x, h.Heat, h.Current)
			all = append(all, x)
		}
	}
	return all
}

// down and up divide a number that is not below 0 by a million, rounded towards one side.
func down(n int) int { return n / 1000000 }

func up(n int) int {
	if n%1000000 == 0 {
		return n / 1000000
	}
	return n/1000000 + 1
}

// cases calls f with valid coats and schedules of many kinds.
func cases(t *testing.T, seed dice, count int, f func(d *dice, c api.Coat, l []api.Heating)) {
	t.Helper()
	d := &seed
	for i := range count {
		c := d.coat()
		l := d.schedule([]int{1, 3, 6}[i%3], []int{1, 4, 12}[i/3%3])
		f(d, c, l)
		if t.Failed() {
			t.Fatal("case ", i, ": ", c, l)
		}
	}
}

// of makes a range, one that of one number.
func of(lo, hi int) api.Range { return api.Range{Lo: lo, Hi: hi} }
func one(n int) api.Range     { return of(n, n) }

// coatK is the coat of the chapter's examples, hot is its heating.
func coatK() api.Coat {
	return api.Coat{
		Amount: 1000, Slew: 400, Yield: one(500000),
		Bands: []api.Band{{}, {From: 1000, Convert: of(100000, 200000), Reduce: one(100000), Evaporate: of(0, 10000), Sinter: of(1, 2)}},
	}
}

var hot = step(2, 1100, 0)

// step makes a heating.
func step(ticks, heat, current int) api.Heating {
	return api.Heating{Ticks: ticks, Heat: heat, Current: current}
}

// secondK is what the coat of the examples is after two of its heatings.
func secondK() api.Coating {
	return api.Coating{Carbonate: of(512, 729), Oxide: of(217, 486), Barium: of(26, 56), Lost: of(0, 1), Gas: of(64, 162), Wear: of(3, 6), Heat: 1100}
}

// changed returns a coat, a coating or a demand that was changed.
func changed[T any](x T, change func(x *T)) T {
	change(&x)
	return x
}

// isRangeIn reports whether a range lies within another one.
func isRangeIn(a, b api.Range) bool { return b.Lo <= a.Lo && a.Hi <= b.Hi }

// isCoatingIn reports whether a coating of the same heat lies within another one.
func isCoatingIn(a, b api.Coating) bool {
	return isRangeIn(a.Carbonate, b.Carbonate) && isRangeIn(a.Oxide, b.Oxide) && isRangeIn(a.Barium, b.Barium) && isRangeIn(a.Lost, b.Lost) && isRangeIn(a.Gas, b.Gas) && isRangeIn(a.Wear, b.Wear) && a.Heat == b.Heat
}

// isMixIn reports whether a mix lies within the bounds of a coating.
func isMixIn(m api.Mix, x api.Coating) bool {
	return isRangeIn(one(m.Carbonate), x.Carbonate) && isRangeIn(one(m.Oxide), x.Oxide) && isRangeIn(one(m.Barium), x.Barium) && isRangeIn(one(m.Lost), x.Lost)
}

// ticked returns the result of Tick, which must not be an error.
func ticked(t *testing.T, c api.Coat, x api.Coating, heat, current int) api.Coating {
	t.Helper()
	y, e := Tick(c, x, heat, current)
	if e != api.OK {
		t.Fatal(c, x, heat, current, e)
	}
	return y
}

// followed returns the result of Follow, which must not be an error.
func followed(t *testing.T, c api.Coat, l []api.Heating) []api.Coating {
	t.Helper()
	all, e := Follow(c, l)
	if e != api.OK {
		t.Fatal(c, l, e)
	}
	return all
}

// judged returns the result of Judge, which must not be an error.
func judged(t *testing.T, c api.Coat, d api.Demand, l []api.Heating) (verdict, tick int) {
	t.Helper()
	verdict, tick, e := Judge(c, d, l)
	if e != api.OK {
		t.Fatal(c, d, l, e)
	}
	return verdict, tick
}

// none is the range that comes with errors.
var none api.Range
