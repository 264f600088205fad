package gauge

import (
	"slices"
	"sort"

	"thermion/api"
)

// values are all values.
var values = api.Range{Lo: -api.MaxShow, Hi: api.MaxShow}

// reach is more than meters make of any value: a value is at most 10^9, and each of at most 12 meters of a chain makes at most 10^6 more than twice of it, which is less than 4.2 x 10^12 in all. It is not so great that it could not be multiplied by a gain.
const reach = 1 << 42

// Makes returns what a meter makes of a value.
func Makes(m api.Meter, x int) api.Range {
	if checkMaking(m) != api.OK || !isIn(x, values) {
		return api.Range{}
	}
	return makes(m, x)
}

// makes returns what a meter makes of a number, which may be greater than a value (but not than reach). Neither end is less for a greater number.
func makes(m api.Meter, x int) api.Range {
	down, up := m.Gain.Lo, m.Gain.Hi
	if x < 0 {
		down, up = up, down
	}
	return api.Range{Lo: roundDown(x*down, api.Million) + m.Off.Lo, Hi: roundUp(x*up, api.Million) + m.Off.Hi}
}

// roundDown returns n / by, rounded down, for by above 0. (Go's own division rounds towards 0.)
func roundDown(n, by int) int {
	if n%by < 0 {
		return n/by - 1
	}
	return n / by
}

// roundUp returns n / by, rounded up, for by above 0.
func roundUp(n, by int) int { return -roundDown(-n, by) }

// isIn reports whether n is a number of a range.
func isIn(n int, r api.Range) bool { return within(n, r.Lo, r.Hi) }

// common returns the numbers that two ranges have in common.
func common(a, b api.Range) api.Range {
	return api.Range{Lo: max(a.Lo, b.Lo), Hi: min(a.Hi, b.Hi)}
}

// leastFor returns the least number of which a meter may make y or more (more than reach if there is none up to there).
func leastFor(m api.Meter, y int) int {
	return sort.Search(2*reach+1, func(i int) bool { return makes(m, i-reach).Hi >= y }) - reach
}

// mostFor returns the greatest number of which a meter may make y or less (less than -reach if there is none down to there).
func mostFor(m api.Meter, y int) int {
	return sort.Search(2*reach+1, func(i int) bool { return makes(m, i-reach).Lo > y }) - reach - 1
}

// half returns how far a number that a meter shows may be from what the value is seen as.
func half(m api.Meter) int { return m.Step / 2 }

// True returns the true values for a number that a meter showed.
func True(bench []api.Meter, m, number int) (api.Range, api.Errno) {
	if e := checkOne(bench, m); e != api.OK {
		return api.Range{}, e
	}
	if !isIn(number, values) {
		return api.Range{}, api.ErrRange
	}
	if number%bench[m].Step != 0 {
		return api.Range{}, api.ErrForm
	}
	return trueFor(bench, m, number)
}

// trueFor is True for arguments that are valid. It goes along the chain from the meter that showed the number, and finds of which numbers each one may have made those before. That there is none has to be seen at once: what comes of no number need not be none.
func trueFor(bench []api.Meter, m, number int) (api.Range, api.Errno) {
	r := api.Range{Lo: number - half(bench[m]), Hi: number + half(bench[m])}
	for _, x := range chain(bench, m) {
		r = api.Range{Lo: leastFor(x, r.Lo), Hi: mostFor(x, r.Hi)}
		if isEmpty(r) {
			return api.Range{}, api.ErrClash
		}
	}
	r = common(r, values)
	if isEmpty(r) {
		return api.Range{}, api.ErrClash
	}
	return r, api.OK
}

// Accept returns the range from the least to the greatest number that a meter may show only of values within limits.
func Accept(bench []api.Meter, m int, limits api.Range) (api.Range, api.Errno) {
	if e := checkOne(bench, m); e != api.OK {
		return api.Range{}, e
	}
	if isEmpty(limits) {
		return api.Range{}, api.ErrOrder
	}
	limits = common(limits, values)
	if isEmpty(limits) {
		return api.Range{}, api.ErrState
	}
	// Seen in a mirror the greatest number is the least one.
	r := api.Range{Lo: leastShown(bench, m, limits.Lo), Hi: -leastShown(mirrored(bench), m, -limits.Hi)}
	if isEmpty(r) {
		return api.Range{}, api.ErrState
	}
	return r, api.OK
}

// mirrored returns the bench whose meters may make -y of -x, where those of a bench may make y of x.
func mirrored(bench []api.Meter) []api.Meter {
	l := slices.Clone(bench)
	for i, x := range l {
		l[i].Off = api.Range{Lo: -x.Off.Hi, Hi: -x.Off.Lo}
	}
	return l
}

// leastShown returns the least number that a meter may show, but of no value below another one (more than any number that is shown if there is none).
func leastShown(bench []api.Meter, m, value int) int {
	x := bench[m]
	number := -api.MaxShow
	if value > values.Lo { // more than what may be shown of the value before
		number = max(number, greatestSeen(bench, m, value-1)+half(x)+1)
	}
	number = multipleFrom(number, x.Step)
	seen := leastSeen(bench, m, number-half(x))
	return max(number, multipleFrom(seen-half(x), x.Step))
}

// multipleFrom returns the least multiple of a step that is at least n.
func multipleFrom(n, step int) int { return roundUp(n, step) * step }

// greatestSeen returns as which number a value may be seen at most at a meter.
func greatestSeen(bench []api.Meter, m, value int) int {
	for _, n := range slices.Backward(Chain(bench, m)) {
		value = makes(bench[n], value).Hi
	}
	return value
}

// leastSeen returns the least number from another one on as which some value may be seen at a meter (reach if there is none).
//
// What may be seen has gaps (a meter that doubles makes no odd numbers). So it goes along the chain, to the least value of which enough can be made, and then back, by the least numbers that are enough.
func leastSeen(bench []api.Meter, m, from int) int {
	var enough []int // for each meter of the chain
	for _, x := range chain(bench, m) {
		enough = append(enough, from)
		from = leastFor(x, from)
	}
	seen := max(from, values.Lo)
	if seen > values.Hi {
		return reach
	}
	for i, n := range slices.Backward(Chain(bench, m)) {
		seen = max(enough[i], makes(bench[n], seen).Lo)
	}
	return seen
}
