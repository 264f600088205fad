package circuit

import (
	"iter"
	"slices"

	"thermion/api"
)

// bits returns how many bits the numbers of corners have: one for each family, three for each stage, and one for each input.
func (w wired) bits() int { return len(w.Tubes) + 3*len(w.Stages) + w.Inputs }

// checkBits returns the error of a net that has too many bits, otherwise OK.
func checkBits(n api.Net) api.Errno {
	if (wired{n}).bits() > api.MaxBits {
		return api.ErrFull
	}
	return api.OK
}

// corner returns a corner of the net. It shares memory with the net, but only such as it does not change.
func (f fed) corner(number int) fed {
	c := fed{f.wired, slices.Clone(f.inputs)}
	c.Tubes, c.Stages = slices.Clone(f.Tubes), slices.Clone(f.Stages)
	upper := func() bool { // the next bit, the lowest first
		bit := number & 1
		number >>= 1
		return bit == 1
	}
	for i := range c.Tubes {
		bound(&c.Tubes[i], upper())
	}
	for i := range c.Stages {
		s := &c.Stages[i]
		end(&s.Supply, upper())
		end(&s.Load, upper())
		end(&s.Bias, upper())
	}
	for i := range c.inputs {
		end(&c.inputs[i], upper())
	}
	return c
}

// bound makes a family one of its bounds only.
func bound(f *api.Family, upper bool) {
	if upper {
		f.Low = f.High
	} else {
		f.High = f.Low
	}
}

// end makes a range one of its ends only.
func end(r *api.Range, upper bool) {
	if upper {
		r.Lo = r.Hi
	} else {
		r.Hi = r.Lo
	}
}

// corners yields all corners of the net with their numbers, ascending.
func (f fed) corners() iter.Seq2[int, fed] {
	return func(yield func(number int, c fed) bool) {
		for number := range 1 << f.bits() {
			if !yield(number, f.corner(number)) {
				return
			}
		}
	}
}

// Corner returns a corner of a net with inputs.
func Corner(n api.Net, inputs []api.Range, corner int) (api.Net, []api.Range, api.Errno) {
	if e := checkFed(n, inputs); e != api.OK {
		return api.Net{}, nil, e
	}
	if e := checkBits(n); e != api.OK {
		return api.Net{}, nil, e
	}
	f := fed{wired{n}, inputs}
	if !within(corner, 0, 1<<f.bits()-1) {
		return api.Net{}, nil, api.ErrRange
	}
	c := f.corner(corner)
	return c.copied(), c.inputs, api.OK
}

// verdict returns the worst verdict on the windows after coming to rest.
func (f fed) verdict(windows []api.Window, sweeps int) int {
	nodes := f.settled(sweeps).Nodes
	worst := api.Sure
	for _, w := range windows {
		switch r := nodes[w.Node]; {
		case !meet(r, w.Range):
			return api.Never
		case !isIn(r, w.Range):
			worst = api.Unsure
		}
	}
	return worst
}

// checkCase returns the first error of a case for a valid net, otherwise OK.
func checkCase(n api.Net, c api.Case) api.Errno {
	if e := checkInputs(n, c.Inputs); e != api.OK {
		return e
	}
	if len(c.Windows) > api.MaxWindows {
		return api.ErrFull
	}
	for _, w := range c.Windows {
		if !(wired{n}).isNode(w.Node) {
			return api.ErrRange
		}
		if w.Range.Lo > w.Range.Hi {
			return api.ErrOrder
		}
	}
	return api.OK
}

// checkCases returns the first error of a net with cases, otherwise OK.
func checkCases(n api.Net, cases []api.Case) api.Errno {
	if e := Check(n); e != api.OK {
		return e
	}
	if len(cases) > api.MaxCases {
		return api.ErrFull
	}
	for _, c := range cases {
		if e := checkCase(n, c); e != api.OK {
			return e
		}
	}
	return api.OK
}

// Judge returns the verdict on a net with cases, and the first case and corner that fail.
func Judge(n api.Net, cases []api.Case, sweeps int) (verdict, number, corner int, e api.Errno) {
	if e := checkCases(n, cases); e != api.OK {
		return 0, 0, 0, e
	}
	if e := checkSweeps(sweeps); e != api.OK {
		return 0, 0, 0, e
	}
	if e := checkBits(n); e != api.OK {
		return 0, 0, 0, e
	}
	verdict = api.Sure
	for i, c := range cases {
		f := fed{wired{n}, c.Inputs}
		if f.verdict(c.Windows, sweeps) == api.Sure { // so it is at each corner, too (P9.12)
			continue
		}
		for k, at := range f.corners() {
			if at.verdict(c.Windows, sweeps) == api.Never {
				return api.Never, i, k, api.OK
			}
		}
		verdict = api.Unsure
	}
	return verdict, nowhere, nowhere, api.OK
}

// Gate returns what Judge has for the cases of a gate.
func Gate(n api.Net, low, high api.Range, node int, table []bool, sweeps int) (verdict, number, corner int, e api.Errno) {
	if e := checkGate(n, low, high, node, table); e != api.OK {
		return 0, 0, 0, e
	}
	level := func(is bool) api.Range {
		if is {
			return high
		}
		return low
	}
	var cases []api.Case
	for k, is := range table {
		c := api.Case{Windows: []api.Window{{Node: node, Range: level(is)}}}
		for j := range n.Inputs {
			c.Inputs = append(c.Inputs, level(k>>j&1 == 1))
		}
		cases = append(cases, c)
	}
	return Judge(n, cases, sweeps)
}

// checkGate returns the first error of a gate, otherwise OK.
func checkGate(n api.Net, low, high api.Range, node int, table []bool) api.Errno {
	if e := Check(n); e != api.OK {
		return e
	}
	levels := []api.Range{low, high}
	for _, r := range levels {
		if r.Lo > r.Hi {
			return api.ErrOrder
		}
	}
	for _, r := range levels {
		if e := checkRange(r, leastVolt, api.MaxVolt); e != api.OK {
			return e
		}
	}
	if !(wired{n}).isNode(node) {
		return api.ErrRange
	}
	if len(table) != 1<<n.Inputs {
		return api.ErrForm
	}
	return api.OK
}
