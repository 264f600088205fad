package circuit

import (
	"sort"

	"thermion/api"
	"thermion/curve"
)

// Grid returns the grid of a stage by voltages of nodes.
func Grid(n api.Net, stage int, nodes []api.Range) (api.Range, api.Errno) {
	if e := Check(n); e != api.OK {
		return api.Range{}, e
	}
	w := wired{n}
	if !w.isStage(stage) {
		return api.Range{}, api.ErrRange
	}
	if e := checkRanges(nodes, w.nodes(), leastVolt); e != api.OK {
		return api.Range{}, e
	}
	return w.grid(stage, nodes), api.OK
}

// grid is Grid for arguments that are valid.
func (w wired) grid(stage int, nodes []api.Range) api.Range {
	r := w.Stages[stage].Bias
	for _, t := range w.Stages[stage].Taps {
		r.Lo += roundDown(t.Num*nodes[t.Node].Lo, t.Den)
		r.Hi += roundUp(t.Num*nodes[t.Node].Hi, t.Den)
	}
	return api.Range{Lo: toVolt(r.Lo), Hi: toVolt(r.Hi)}
}

// toVolt brings a number to the nearest one that a grid can have as its voltage.
func toVolt(n int) int { return min(max(n, leastVolt), api.MaxVolt) }

// roundDown returns n / by, rounded down, for by above 0. (Go's own division rounds towards 0.)
func roundDown(n, by int) int {
	if n < 0 {
		n -= by - 1
	}
	return n / by
}

// roundUp returns n / by, rounded up, for by above 0.
func roundUp(n, by int) int { return -roundDown(-n, by) }

// Plate returns the plate of a stage by a range of its grid.
func Plate(n api.Net, stage int, grid api.Range) (api.Range, api.Errno) {
	if e := Check(n); e != api.OK {
		return api.Range{}, e
	}
	w := wired{n}
	if !w.isStage(stage) {
		return api.Range{}, api.ErrRange
	}
	if e := checkRange(grid, leastVolt, api.MaxVolt); e != api.OK {
		return api.Range{}, e
	}
	return w.plate(stage, grid), api.OK
}

// plate is Plate for arguments that are valid. What a plate and its load have together never falls with a greater voltage of the plate: both ends are found by halving.
func (w wired) plate(stage int, grid api.Range) api.Range {
	s := w.Stages[stage]
	f := w.Tubes[s.Tube]
	tooMuch := func(v int) bool { return 1000*v+s.Load.Hi*current(f, grid.Hi, v).Hi > 1000*s.Supply.Lo }
	enough := func(v int) bool { return 1000*v+s.Load.Lo*current(f, grid.Lo, v).Lo >= 1000*s.Supply.Hi }
	return api.Range{
		Lo: max(0, sort.Search(s.Supply.Lo+1, tooMuch)-1),
		Hi: sort.Search(s.Supply.Hi, enough),
	}
}

// current returns the current of a valid family at right voltages. As curve.At checks the whole family that it is given, and plates are asked for often, it is given only the cell in which the voltages lie.
func current(f api.Family, grid, plate int) api.Range {
	r, _ := curve.At(cell(f, grid, plate), grid, plate)
	return r
}

// cell returns the lines of a valid family that count at two voltages, with their currents. It shares the family's memory.
func cell(f api.Family, grid, plate int) api.Family {
	i, iEnd := around(f.Grid, grid)
	k, kEnd := around(f.Plate, plate)
	return api.Family{Grid: f.Grid[i:iEnd], Plate: f.Plate[k:kEnd], Low: part(f.Low[i:iEnd], k, kEnd), High: part(f.High[i:iEnd], k, kEnd)}
}

// around returns which lines count at a voltage: the greatest one that is at most v (or the first one), and the next one, if there is one. The end is the number behind the last of them.
func around(lines []int, v int) (first, end int) {
	first = max(0, sort.SearchInts(lines, v+1)-1)
	return first, min(first+2, len(lines))
}

// part returns the numbers from first to before end of each row.
func part(rows [][]int, first, end int) [][]int {
	l := make([][]int, 0, 2)
	for _, row := range rows {
		l = append(l, row[first:end])
	}
	return l
}
