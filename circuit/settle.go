package circuit

import (
	"slices"

	"thermion/api"
)

// fed is a net whose inputs have voltages.
type fed struct {
	wired
	inputs []api.Range
}

// checkInputs returns the first error of inputs of a valid net, otherwise OK.
func checkInputs(n api.Net, inputs []api.Range) api.Errno {
	return checkRanges(inputs, n.Inputs, leastVolt)
}

// checkFed returns the first error of a net with inputs, otherwise OK.
func checkFed(n api.Net, inputs []api.Range) api.Errno {
	if e := Check(n); e != api.OK {
		return e
	}
	return checkInputs(n, inputs)
}

// checkSweeps returns the error of a number of sweeps, otherwise OK.
func checkSweeps(sweeps int) api.Errno {
	if !within(sweeps, 0, api.MaxRounds) {
		return api.ErrRange
	}
	return api.OK
}

// Settle returns the voltages of a net after at most so many sweeps.
func Settle(n api.Net, inputs []api.Range, sweeps int) (api.Settled, api.Errno) {
	if e := checkFed(n, inputs); e != api.OK {
		return api.Settled{}, e
	}
	if e := checkSweeps(sweeps); e != api.OK {
		return api.Settled{}, e
	}
	return fed{wired{n}, inputs}.settled(sweeps), api.OK
}

// settled is Settle for arguments that are valid.
func (f fed) settled(sweeps int) api.Settled {
	x := api.Settled{Nodes: slices.Clone(f.inputs)}
	for _, s := range f.Stages {
		x.Nodes = append(x.Nodes, api.Range{Hi: s.Supply.Hi})
	}
	for x.Sweeps < sweeps && !x.Still {
		x.Still = !f.sweep(x.Nodes)
		x.Sweeps++
	}
	return x
}

// sweep brings the voltages of all plates nearer, one after the other, and reports whether one of them changed.
func (f fed) sweep(nodes []api.Range) bool {
	changed := false
	plates := nodes[f.Inputs:]
	for i, was := range plates {
		plates[i] = common(was, f.plate(i, f.grid(i, nodes)))
		changed = changed || plates[i] != was
	}
	return changed
}

// common returns the range of the numbers that two ranges have in common (its Lo is above its Hi if there are none).
func common(a, b api.Range) api.Range {
	return api.Range{Lo: max(a.Lo, b.Lo), Hi: min(a.Hi, b.Hi)}
}

// meet reports whether two ranges have a number in common.
func meet(a, b api.Range) bool {
	c := common(a, b)
	return c.Lo <= c.Hi
}

// isIn reports whether a lies within b.
func isIn(a, b api.Range) bool { return b.Lo <= a.Lo && a.Hi <= b.Hi }

// Swing returns by how much the voltage of a node is greater with b as the inputs than with a.
func Swing(n api.Net, a, b []api.Range, node, sweeps int) (api.Range, api.Errno) {
	from, e := Settle(n, a, sweeps)
	if e != api.OK {
		return api.Range{}, e
	}
	to, e := Settle(n, b, sweeps)
	if e != api.OK {
		return api.Range{}, e
	}
	if !within(node, 0, len(to.Nodes)-1) {
		return api.Range{}, api.ErrRange
	}
	x, y := from.Nodes[node], to.Nodes[node]
	return api.Range{Lo: y.Lo - x.Hi, Hi: y.Hi - x.Lo}, api.OK
}
