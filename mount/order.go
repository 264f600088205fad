package mount

import (
	"slices"

	"thermion/api"
)

// counter counts orders; it keeps what it found for each state.
type counter struct {
	locks
	found map[set]int
}

// newCounter returns a counter for a valid kit.
func newCounter(k api.Kit) counter { return counter{locksOf(k), map[set]int{}} }

// count returns in how many orders the parts that are not in can go in.
func (c counter) count(in set) int {
	if c.isWhole(in) {
		return 1
	}
	if n, is := c.found[in]; is {
		return n
	}
	n := 0
	for _, p := range c.may(in) {
		n += c.count(in.with(p))
	}
	c.found[in] = n
	return n
}

// good returns the parts that may go in and after which the state is good: there is an order for all others.
func (c counter) good(in set) []int {
	may := c.may(in)
	return c.asked(func(p int) bool { return slices.Contains(may, p) && c.count(in.with(p)) > 0 })
}

// Orders returns how many whole orders of a kit there are.
func Orders(k api.Kit) (int, api.Errno) {
	if e := CheckKit(k); e != api.OK {
		return 0, e
	}
	return newCounter(k).count(0), api.OK
}

// Stuck returns the first of the shortest orders after which the state of a kit is stuck, and whether there is one.
func Stuck(k api.Kit) (order []int, is bool, e api.Errno) {
	if e := CheckKit(k); e != api.OK {
		return nil, false, e
	}
	l := locksOf(k)
	first := map[set][]int{0: nil} // the first order to each state
	// States with fewer parts come first, those with as many in the lexicographic order of their first orders.
	for states := []set{0}; len(states) > 0; states = states[1:] {
		in := states[0]
		may := l.may(in)
		if len(may) == 0 && !l.isWhole(in) {
			return first[in], true, api.OK
		}
		for _, p := range may {
			next := in.with(p)
			if _, is := first[next]; !is {
				first[next] = append(slices.Clone(first[in]), p)
				states = append(states, next)
			}
		}
	}
	return nil, false, api.OK
}

// stand is what the time of the further parts depends on: which parts are in, and the jig of the last one.
type stand struct {
	in  set
	jig int
}

// noJig is the jig before the first part.
const noJig = -1

// choice is the first part of the first of the fastest orders in which all further parts go in, and their time.
type choice struct{ part, ticks int }

// planner finds fastest orders; it keeps its choices.
type planner struct {
	counter
	kit    api.Kit
	chosen map[stand]choice
}

// ticks returns how long a part takes behind another one.
func (f planner) ticks(s stand, p int) int {
	part := f.kit.Parts[p]
	if s.jig == noJig || s.jig == part.Jig {
		return part.Ticks
	}
	return f.kit.Change + part.Ticks
}

// after returns the stand when a part went in.
func (f planner) after(s stand, p int) stand { return stand{s.in.with(p), f.kit.Parts[p].Jig} }

// choose returns the choice in a good state. (If all parts are in, there is none, and no time either.)
func (f planner) choose(s stand) choice {
	if c, is := f.chosen[s]; is {
		return c
	}
	var best choice
	for i, p := range f.good(s.in) {
		ticks := f.ticks(s, p) + f.choose(f.after(s, p)).ticks
		if i == 0 || ticks < best.ticks { // of as many ticks the first one counts
			best = choice{p, ticks}
		}
	}
	f.chosen[s] = best
	return best
}

// Fastest returns the first of the whole orders of a kit with the least time, and this time.
func Fastest(k api.Kit) (order []int, ticks int, e api.Errno) {
	if e := CheckKit(k); e != api.OK {
		return nil, 0, e
	}
	f := planner{newCounter(k), k, map[stand]choice{}}
	if f.count(0) == 0 {
		return nil, 0, api.ErrState
	}
	s := stand{jig: noJig}
	ticks = f.choose(s).ticks
	for !f.isWhole(s.in) {
		p := f.choose(s).part
		order = append(order, p)
		s = f.after(s, p)
	}
	return order, ticks, api.OK
}
