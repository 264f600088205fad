package pump

import (
	"math/bits"

	"thermion/api"
)

// maxSuspects is the greatest number of suspects of a hunt.
const maxSuspects = 12

// CheckHunt returns the first error of a hunt, otherwise OK.
func CheckHunt(h api.Hunt) api.Errno {
	if !within(h.Suspects, 1, maxSuspects) {
		return api.ErrRange
	}
	if len(h.Trials) > api.MaxTrials {
		return api.ErrFull
	}
	for _, t := range h.Trials {
		if e := checkNumbers(t.Of, h.Suspects); e != api.OK {
			return e
		}
		if !within(t.Cost, 0, api.MaxCost) {
			return api.ErrRange
		}
	}
	return api.OK
}

// set is a set of suspects: it has the bit of each of them.
type set uint16

// setOf returns the set of the suspects of a list.
func setOf(l []int) set {
	var s set
	for _, n := range l {
		s |= 1 << n
	}
	return s
}

// has reports whether a suspect is in the set.
func (s set) has(n int) bool { return s>>n&1 != 0 }

// isOne reports whether just one suspect is in the set.
func (s set) isOne() bool { return bits.OnesCount16(uint16(s)) == 1 }

// noTrial is the best test for one suspect, who needs none.
const noTrial = -1

// plan says whether, and at which cost in the worst case, the suspects of a set can be told apart, and which test is the best one for that.
type plan struct {
	told        bool
	cost, trial int
}

// hunter finds plans for a hunt; it keeps those that it found.
type hunter struct {
	of    []set // of each test
	costs []int
	found map[set]plan
}

// newHunter returns a hunter for a valid hunt.
func newHunter(h api.Hunt) hunter {
	r := hunter{found: map[set]plan{}}
	for _, t := range h.Trials {
		r.of = append(r.of, setOf(t.Of))
		r.costs = append(r.costs, t.Cost)
	}
	return r
}

// plan returns the plan for a set, which is not empty.
func (r hunter) plan(s set) plan {
	if s.isOne() {
		return plan{told: true, trial: noTrial}
	}
	if p, is := r.found[s]; is {
		return p
	}
	var best plan
	for n := range r.of {
		cost, is := r.with(n, s)
		if is && (!best.told || cost < best.cost) { // of as low costs the first one counts
			best = plan{true, cost, n}
		}
	}
	r.found[s] = best
	return best
}

// with returns the cost at which the suspects of a set can be told apart if a test is made first, and whether they can.
func (r hunter) with(trial int, s set) (cost int, is bool) {
	in, out := s&r.of[trial], s&^r.of[trial]
	if in == 0 || out == 0 {
		return 0, false
	}
	a, b := r.plan(in), r.plan(out)
	return r.costs[trial] + max(a.cost, b.cost), a.told && b.told
}

// Worst returns the cost, in the worst case, at which suspects can be told apart, and the best test for them.
func Worst(h api.Hunt, suspects []int) (cost, trial int, e api.Errno) {
	if e := CheckHunt(h); e != api.OK {
		return 0, 0, e
	}
	if len(suspects) == 0 {
		return 0, 0, api.ErrShort
	}
	if e := checkNumbers(suspects, h.Suspects); e != api.OK {
		return 0, 0, e
	}
	p := newHunter(h).plan(setOf(suspects))
	if !p.told {
		return 0, 0, api.ErrUnsure
	}
	return p.cost, p.trial, api.OK
}

// Find returns the tests that are made to hunt a leak, with what they show, and the sum of their costs.
func Find(h api.Hunt, leak int) (l []api.Try, cost int, e api.Errno) {
	if e := CheckHunt(h); e != api.OK {
		return nil, 0, e
	}
	if !within(leak, 0, h.Suspects-1) {
		return nil, 0, api.ErrMissing
	}
	r, s := newHunter(h), set(1<<h.Suspects-1)
	if !r.plan(s).told {
		return nil, 0, api.ErrUnsure
	}
	for !s.isOne() {
		n := r.plan(s).trial
		in := r.of[n].has(leak)
		l = append(l, api.Try{Trial: n, In: in})
		cost += r.costs[n]
		if in {
			s &= r.of[n]
		} else {
			s &^= r.of[n]
		}
	}
	return l, cost, api.OK
}
