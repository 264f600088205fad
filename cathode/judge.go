package cathode

import "thermion/api"

// Judge returns the verdict on a schedule by a demand, and its tick.
func Judge(c api.Coat, d api.Demand, l []api.Heating) (verdict, tick int, e api.Errno) {
	if e := checkDemand(c, d); e != api.OK {
		return 0, 0, e
	}
	if e := CheckSchedule(l); e != api.OK {
		return 0, 0, e
	}
	verdict, tick = judge(c, d, l)
	return verdict, tick, api.OK
}

// checkDemand returns the first error of a coat and of a demand, otherwise OK.
func checkDemand(c api.Coat, d api.Demand) api.Errno {
	if e := Check(c); e != api.OK {
		return e
	}
	for _, n := range [...]int{d.Gas, d.Wear, d.Lost, d.Rest, d.Barium} {
		if !within(n, 0, api.MaxWear) {
			return api.ErrRange
		}
	}
	return api.OK
}

// looks are the demands as functions of a coating, each of which says whether it is kept (Sure), broken (Never), or in doubt (Unsure).
type looks []func(x api.Coating) int

// looksOf returns the demands for each tick, and those for the last one besides.
func looksOf(d api.Demand) (each, last looks) {
	each = looks{
		func(x api.Coating) int { return atMost(x.Gas, d.Gas) },
		func(x api.Coating) int { return atMost(x.Wear, d.Wear) },
		func(x api.Coating) int { return atMost(x.Lost, d.Lost) },
	}
	last = looks{
		func(x api.Coating) int { return atMost(x.Carbonate, d.Rest) },
		func(x api.Coating) int { return atLeast(x.Barium, d.Barium) },
	}
	return each, last
}

// all returns what the demands say together of a coating: the worst that one of them says.
func (l looks) all(x api.Coating) int {
	verdict := api.Sure
look:
	for _, f := range l {
		switch f(x) {
		case api.Never:
			verdict = api.Never
			break look
		case api.Unsure:
			verdict = api.Unsure
		}
	}
	return verdict
}

// judge is Judge for arguments that are valid.
func judge(c api.Coat, d api.Demand, l []api.Heating) (verdict, tick int) {
	each, last := looksOf(d)
	verdict = api.Sure
	note := func(said, n int) (broken bool) {
		if said == api.Never || said == api.Unsure && verdict == api.Sure { // of several in doubt the first one counts
			verdict, tick = said, n
		}
		return said == api.Never
	}
	x, n := fresh(c), 0
	for k, h := range ticks(l) {
		x, n = after(c, x, h.Heat, h.Current), k
		if note(each.all(x), n) {
			return verdict, tick
		}
	}
	note(last.all(x), n)
	return verdict, tick
}

// atMost says whether a number of a range is at most limit.
func atMost(r api.Range, limit int) int {
	switch {
	case r.Hi <= limit:
		return api.Sure
	case r.Lo > limit:
		return api.Never
	}
	return api.Unsure
}

// atLeast says whether a number of a range is at least limit.
func atLeast(r api.Range, limit int) int {
	switch {
	case r.Lo >= limit:
		return api.Sure
	case r.Hi < limit:
		return api.Never
	}
	return api.Unsure
}

// Emission returns the emission of a coating.
func Emission(c api.Coat, x api.Coating) (api.Range, api.Errno) {
	if e := CheckCoating(c, x); e != api.OK {
		return api.Range{}, e
	}
	return parts(x.Barium, c.Yield), api.OK
}

// Life returns for how many ticks with a heat and a current a coating has so much barium.
func Life(c api.Coat, x api.Coating, heat, current, least int) (api.Range, api.Errno) {
	if e := checkTick(c, x, heat, current); e != api.OK {
		return api.Range{}, e
	}
	if !within(least, 0, c.Amount) {
		return api.Range{}, api.ErrRange
	}
	var life api.Range
	surely, maybe := true, true // so far there has been enough
	for n := 1; n <= api.MaxLife && (surely || maybe); n++ {
		x = after(c, x, heat, current) // its wear, which is not looked at, is soon above what may be
		if surely = surely && x.Barium.Lo >= least; surely {
			life.Lo = n
		}
		if maybe = maybe && x.Barium.Hi >= least; maybe {
			life.Hi = n
		}
	}
	return life, api.OK
}
