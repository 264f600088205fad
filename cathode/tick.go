package cathode

import (
	"sort"

	"thermion/api"
)

// Fresh returns the fresh coating of a coat.
func Fresh(c api.Coat) (api.Coating, api.Errno) {
	if e := Check(c); e != api.OK {
		return api.Coating{}, e
	}
	return fresh(c), api.OK
}

// fresh is Fresh for a coat that is valid.
func fresh(c api.Coat) api.Coating {
	return api.Coating{Carbonate: api.Range{Lo: c.Amount, Hi: c.Amount}, Heat: api.Room}
}

// Tick returns what a coating is after a tick with a heat that is asked for, and a current.
func Tick(c api.Coat, x api.Coating, heat, current int) (api.Coating, api.Errno) {
	if e := checkTick(c, x, heat, current); e != api.OK {
		return api.Coating{}, e
	}
	x = after(c, x, heat, current)
	if x.Wear.Hi > api.MaxWear {
		return api.Coating{}, api.ErrFull
	}
	return x, api.OK
}

// checkTick returns the first error of a coat, of its coating and of a tick, otherwise OK.
func checkTick(c api.Coat, x api.Coating, heat, current int) api.Errno {
	if e := CheckCoating(c, x); e != api.OK {
		return e
	}
	if !rightHeat(heat) || !rightCurrent(current) {
		return api.ErrRange
	}
	return api.OK
}

// rightHeat reports whether a heat can be asked for.
func rightHeat(heat int) bool { return within(heat, 0, api.MaxHeat) }

// rightCurrent reports whether a current can flow.
func rightCurrent(current int) bool { return within(current, 0, api.MaxFlow) }

// tick is a tick with its rates: the coating before it, and what its parts have made of it so far.
type tick struct {
	rates    api.Band
	old, now api.Coating
}

// after is Tick for arguments that are valid, whatever the wear becomes.
func after(c api.Coat, x api.Coating, heat, current int) api.Coating {
	t := tick{old: x}
	t.now.Heat = moved(x.Heat, heat, c.Slew)
	t.rates = ratesAt(c, t.now.Heat, current)
	for _, part := range [...]func(){t.gas, t.carbonate, t.oxide, t.barium, t.lost, t.wear} { // the gas first: it becomes oxide
		part()
	}
	for _, r := range [...]*api.Range{&t.now.Carbonate, &t.now.Oxide, &t.now.Barium, &t.now.Lost, &t.now.Gas} {
		r.Hi = min(r.Hi, c.Amount)
	}
	return t.now
}

func (t *tick) gas()       { t.now.Gas = parts(t.old.Carbonate, t.rates.Convert) }
func (t *tick) carbonate() { t.now.Carbonate = remains(t.old.Carbonate, t.rates.Convert) }
func (t *tick) oxide()     { t.now.Oxide = sum(remains(t.old.Oxide, t.rates.Reduce), t.now.Gas) }
func (t *tick) barium() {
	t.now.Barium = sum(remains(t.old.Barium, t.rates.Evaporate), parts(t.old.Oxide, t.rates.Reduce))
}
func (t *tick) lost() { t.now.Lost = sum(t.old.Lost, parts(t.old.Barium, t.rates.Evaporate)) }
func (t *tick) wear() { t.now.Wear = sum(t.old.Wear, t.rates.Sinter) }

// moved returns the heat after a tick: nearer to the one that is asked for, by slew at most.
func moved(heat, asked, slew int) int {
	return min(max(asked, heat-slew), heat+slew)
}

// ratesAt returns the rates of a coat at a heat; the current helps to reduce.
func ratesAt(c api.Coat, heat, current int) api.Band {
	above := sort.Search(len(c.Bands), func(i int) bool { return c.Bands[i].From > heat })
	b := c.Bands[above-1] // the first band begins with the least heat
	b.Reduce.Lo = min(b.Reduce.Lo+current*c.Aid.Lo, api.Million)
	b.Reduce.Hi = min(b.Reduce.Hi+current*c.Aid.Hi, api.Million)
	return b
}

// parts returns the bounds of what an amount gives away at a rate.
func parts(amount, rate api.Range) api.Range {
	return api.Range{Lo: partDown(amount.Lo, rate.Lo), Hi: partUp(amount.Hi, rate.Hi)}
}

// remains returns the bounds of what an amount keeps at a rate: it keeps least if it gives away most.
func remains(amount, rate api.Range) api.Range {
	return api.Range{Lo: amount.Lo - partUp(amount.Lo, rate.Hi), Hi: amount.Hi - partDown(amount.Hi, rate.Lo)}
}

// sum returns the bounds of two amounts together.
func sum(a, b api.Range) api.Range { return api.Range{Lo: a.Lo + b.Lo, Hi: a.Hi + b.Hi} }

// partDown returns the part of an amount by a rate, rounded down.
func partDown(amount, rate int) int { return amount * rate / api.Million }

// partUp returns the part of an amount by a rate, rounded up.
func partUp(amount, rate int) int { return (amount*rate + api.Million - 1) / api.Million }
