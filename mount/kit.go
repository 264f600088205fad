package mount

import "thermion/api"

// The greatest times of a kit.
const (
	maxChange = 10000
	maxWork   = 10000
)

// CheckKit returns the first error of a kit, otherwise OK.
func CheckKit(k api.Kit) api.Errno {
	if len(k.Parts) > api.MaxParts {
		return api.ErrFull
	}
	if !within(k.Change, 0, maxChange) {
		return api.ErrRange
	}
	for own, p := range k.Parts {
		if e := checkOthers(k, own, p.Needs); e != api.OK {
			return e
		}
		if e := checkOthers(k, own, p.Bars); e != api.OK {
			return e
		}
		if !within(p.Jig, 0, api.MaxJigs) || !within(p.Ticks, 0, maxWork) {
			return api.ErrRange
		}
	}
	return api.OK
}

// checkOthers returns the first error of a list of parts of a kit other than one's own, otherwise OK.
func checkOthers(k api.Kit, own int, l []int) api.Errno {
	for i, n := range l {
		switch {
		case !isPart(k, n):
			return api.ErrMissing
		case n == own:
			return api.ErrExists
		case i > 0 && n <= l[i-1]:
			return api.ErrOrder
		}
	}
	return api.OK
}

// isPart reports whether a number is a part of a kit.
func isPart(k api.Kit, n int) bool { return within(n, 0, len(k.Parts)-1) }

// set is a state: the bit of each part that is in.
type set uint16

// setOf returns the set of the parts of a list.
func setOf(l []int) set {
	var s set
	for _, p := range l {
		s = s.with(p)
	}
	return s
}

// with returns the set with one part more.
func (s set) with(p int) set { return s | 1<<p }

// locks are the interlocks of a kit: for each part those that it needs and those that bar it.
type locks struct{ needs, bars []set }

// locksOf returns the interlocks of a valid kit.
func locksOf(k api.Kit) locks {
	var l locks
	for _, p := range k.Parts {
		l.needs = append(l.needs, setOf(p.Needs))
		l.bars = append(l.bars, setOf(p.Bars))
	}
	return l
}

// asked returns the parts of which something is true, ascending.
func (l locks) asked(is func(p int) bool) []int {
	var found []int
	for p := range l.needs {
		if is(p) {
			found = append(found, p)
		}
	}
	return found
}

// may returns the parts that may go in.
func (l locks) may(in set) []int {
	return l.asked(func(p int) bool {
		return in.with(p) != in && in&l.needs[p] == l.needs[p] && in&l.bars[p] == 0
	})
}

// isWhole reports whether all parts are in.
func (l locks) isWhole(in set) bool { return in == 1<<len(l.needs)-1 }

// May returns the parts that may go in, ascending.
func May(k api.Kit, in []int) ([]int, api.Errno) {
	if e := checkIn(k, in); e != api.OK {
		return nil, e
	}
	return locksOf(k).may(setOf(in)), api.OK
}

// Guard returns the parts that may go in and after which all others can, ascending.
func Guard(k api.Kit, in []int) ([]int, api.Errno) {
	if e := checkIn(k, in); e != api.OK {
		return nil, e
	}
	return newCounter(k).good(setOf(in)), api.OK
}

// checkIn returns the first error of a kit and of a list of parts that are in, otherwise OK.
func checkIn(k api.Kit, in []int) api.Errno {
	if e := CheckKit(k); e != api.OK {
		return e
	}
	for i, n := range in {
		if !isPart(k, n) {
			return api.ErrMissing
		}
		if i > 0 && n <= in[i-1] {
			return api.ErrOrder
		}
	}
	return api.OK
}
