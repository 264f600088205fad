// Package gauge says what is known of a value from what meters showed, whether it lies within limits, how it changes with age, and which samples of a lot are enough. It is layer 7: see shared/doc/07-gauge.md.
package gauge

import (
	"iter"

	"thermion/api"
)

// standard is the number that By has for the standard, with which the last meter of a chain was compared.
const standard = -1

// Check returns the first error of a bench, otherwise OK.
func Check(bench []api.Meter) api.Errno {
	if len(bench) > api.MaxMeters {
		return api.ErrFull
	}
	for _, x := range bench {
		if e := checkMeter(x, len(bench)); e != api.OK {
			return e
		}
	}
	for m := range bench {
		if isLoose(bench, m) {
			return api.ErrLoose
		}
	}
	return api.OK
}

// checkMeter returns the first error of a meter of a bench with so many meters, otherwise OK.
func checkMeter(x api.Meter, meters int) api.Errno {
	if e := checkMaking(x); e != api.OK {
		return e
	}
	if !within(x.Step, 1, api.MaxStep) || !within(x.Due, 0, api.MaxDue) || !within(x.By, standard, meters-1) {
		return api.ErrRange
	}
	return api.OK
}

// checkMaking returns the first error of what a meter makes numbers by, which is its gain and its offset, otherwise OK.
func checkMaking(x api.Meter) api.Errno {
	if e := checkRange(x.Gain, api.MinGain, api.MaxGains); e != api.OK {
		return e
	}
	return checkRange(x.Off, -api.MaxOff, api.MaxOff)
}

// checkRange returns the first error of a range of numbers from least to most, otherwise OK.
func checkRange(r api.Range, least, most int) api.Errno {
	if !bothWithin(r, least, most) {
		return api.ErrRange
	}
	if isEmpty(r) {
		return api.ErrOrder
	}
	return api.OK
}

// checkOne returns the first error of a bench, or of the number of one of its meters, otherwise OK.
func checkOne(bench []api.Meter, m int) api.Errno {
	if e := Check(bench); e != api.OK {
		return e
	}
	if !isMeter(bench, m) {
		return api.ErrMissing
	}
	return api.OK
}

// isMeter reports whether a number is that of a meter of a bench.
func isMeter(bench []api.Meter, m int) bool { return within(m, 0, len(bench)-1) }

// within reports whether n is a number from least to most.
func within(n, least, most int) bool { return least <= n && n <= most }

// bothWithin reports whether both numbers of a range are from least to most.
func bothWithin(r api.Range, least, most int) bool {
	return within(r.Lo, least, most) && within(r.Hi, least, most)
}

// isEmpty reports whether a range has no number.
func isEmpty(r api.Range) bool { return r.Lo > r.Hi }

// chain yields the meters of the chain of a meter, with their numbers. If the bench is loose, it need not end.
func chain(bench []api.Meter, m int) iter.Seq2[int, api.Meter] {
	return func(yield func(m int, x api.Meter) bool) {
		for ; m != standard; m = bench[m].By {
			if !yield(m, bench[m]) {
				return
			}
		}
	}
}

// isLoose reports whether the chain of a meter does not come to the standard: it has more meters then than there are, because some come again and again.
func isLoose(bench []api.Meter, m int) bool {
	meters := 0
	for range chain(bench, m) {
		meters++
		if meters > len(bench) {
			return true
		}
	}
	return false
}

// Chain returns the numbers of the chain of a meter of a bench, which has to be valid.
func Chain(bench []api.Meter, m int) []int {
	if checkOne(bench, m) != api.OK {
		return nil
	}
	var l []int
	for n := range chain(bench, m) {
		l = append(l, n)
	}
	return l
}
