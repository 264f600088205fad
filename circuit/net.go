// Package circuit finds where circuits of tubes come to rest, for all tubes of their families and all parts within their tolerances; it proves that a circuit works with each of them, or names one with which it does not. It is layer 9: see shared/doc/09-circuit.md.
package circuit

import (
	"slices"

	"thermion/api"
	"thermion/curve"
)

// The greatest numbers of a tap.
const (
	maxNum = 1000
	maxDen = 1000
)

// The numbers that ranges of a net may have.
const (
	leastLoad  = 1 // ohm
	leastPlate = 0
	leastVolt  = -api.MaxVolt
)

// Check returns the first error of a net, otherwise OK.
func Check(n api.Net) api.Errno {
	if e := checkCount(len(n.Tubes), api.MaxTubes); e != api.OK {
		return e
	}
	for _, f := range n.Tubes {
		if e := curve.Check(f); e != api.OK {
			return e
		}
	}
	if !within(n.Inputs, 0, api.MaxInputs) {
		return api.ErrRange
	}
	if e := checkCount(len(n.Stages), api.MaxStages); e != api.OK {
		return e
	}
	for _, s := range n.Stages {
		if e := checkStage(wired{n}, s); e != api.OK {
			return e
		}
	}
	return api.OK
}

// checkCount returns the error of a list that should have 1 thing to most, otherwise OK.
func checkCount(things, most int) api.Errno {
	if things == 0 {
		return api.ErrShort
	}
	if things > most {
		return api.ErrFull
	}
	return api.OK
}

// checkStage returns the first error of a stage of a net, otherwise OK.
func checkStage(w wired, s api.Stage) api.Errno {
	if !within(s.Tube, 0, len(w.Tubes)-1) {
		return api.ErrRange
	}
	if e := checkRange(s.Supply, leastPlate, api.MaxVolt); e != api.OK {
		return e
	}
	if e := checkRange(s.Load, leastLoad, api.MaxLoad); e != api.OK {
		return e
	}
	if e := checkRange(s.Bias, leastVolt, api.MaxVolt); e != api.OK {
		return e
	}
	if len(s.Taps) > api.MaxTaps {
		return api.ErrFull
	}
	for i, t := range s.Taps {
		if !w.isNode(t.Node) || !within(t.Num, 0, maxNum) || !within(t.Den, 1, maxDen) {
			return api.ErrRange
		}
		if i > 0 && t.Node <= s.Taps[i-1].Node {
			return api.ErrOrder
		}
	}
	return api.OK
}

// checkRange returns the first error of a range of numbers from least to most, otherwise OK.
func checkRange(r api.Range, least, most int) api.Errno {
	if !within(r.Lo, least, most) || !within(r.Hi, least, most) {
		return api.ErrRange
	}
	if r.Lo > r.Hi {
		return api.ErrOrder
	}
	return api.OK
}

// checkRanges returns the first error of so many ranges of voltages from least on, otherwise OK.
func checkRanges(l []api.Range, count, least int) api.Errno {
	if len(l) != count {
		return api.ErrForm
	}
	for _, r := range l {
		if e := checkRange(r, least, api.MaxVolt); e != api.OK {
			return e
		}
	}
	return api.OK
}

// within reports whether n is a number from least to most.
func within(n, least, most int) bool { return least <= n && n <= most }

// wired is a net, of which more can be asked than what it has.
type wired struct{ api.Net }

// nodes returns how many nodes the net has.
func (w wired) nodes() int { return w.Inputs + len(w.Stages) }

// isNode reports whether a number is that of a node.
func (w wired) isNode(n int) bool { return within(n, 0, w.nodes()-1) }

// isStage reports whether a number is that of a stage.
func (w wired) isStage(n int) bool { return within(n, 0, len(w.Stages)-1) }

// copied returns the net in memory of its own.
func (w wired) copied() api.Net {
	n := api.Net{Inputs: w.Inputs}
	for _, f := range w.Tubes {
		n.Tubes = append(n.Tubes, curve.Copy(f))
	}
	for _, s := range w.Stages {
		s.Taps = slices.Clone(s.Taps)
		n.Stages = append(n.Stages, s)
	}
	return n
}

// Copy returns an equal net that shares no memory with n.
func Copy(n api.Net) api.Net { return wired{n}.copied() }

// Same reports whether two nets are equal, whether they are valid or not.
func Same(a, b api.Net) bool {
	return a.Inputs == b.Inputs && slices.EqualFunc(a.Tubes, b.Tubes, curve.Same) && slices.EqualFunc(a.Stages, b.Stages, sameStage)
}

// sameStage reports whether two stages are equal.
func sameStage(a, b api.Stage) bool {
	return a.Tube == b.Tube && a.Supply == b.Supply && a.Load == b.Load && a.Bias == b.Bias && slices.Equal(a.Taps, b.Taps)
}
