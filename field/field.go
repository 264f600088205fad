// Package field finds between which numbers the potentials of a section of electrodes lie, what charges they have, and by how much more a grid counts than a plate. It is layer 1: see shared/doc/01-field.md.
package field

import (
	"iter"
	"slices"

	"thermion/api"
)

// maxCells is how many cells a valid plan has at most.
const maxCells = api.MaxSide * api.MaxSide

// Check returns the first error of a plan, otherwise OK.
func Check(p api.Plan) api.Errno {
	if !within(p.Wide, 1, api.MaxSide) || !within(p.High, 1, api.MaxSide) {
		return api.ErrRange
	}
	if len(p.Cells) != p.Wide*p.High {
		return api.ErrForm
	}
	for _, c := range p.Cells {
		if !within(c, 0, api.MaxElectrodes) {
			return api.ErrRange
		}
	}
	if slices.Max(p.Cells) == 0 {
		return api.ErrMissing
	}
	if loose(p) {
		return api.ErrLoose
	}
	return api.OK
}

// loose reports whether a vacuum cell has no way to an electrode. It goes the ways back: what is reached from the electrodes, by neighbours, has a way to them. As the cells of a plan are a whole rectangle, each of them is reached; the document asks for the look all the same.
func loose(p api.Plan) bool {
	var reached [maxCells]bool
	var way []int
	for cell, c := range p.Cells {
		if c != 0 {
			reached[cell] = true
			way = append(way, cell)
		}
	}
	for next := 0; next < len(way); next++ {
		for cell := range neighbours(p, way[next]) {
			if !reached[cell] {
				reached[cell] = true
				way = append(way, cell)
			}
		}
	}
	return len(way) < len(p.Cells)
}

// CheckVolts returns the first error of a plan and of voltages for it, otherwise OK.
func CheckVolts(p api.Plan, volts []int) api.Errno {
	if e := Check(p); e != api.OK {
		return e
	}
	if len(volts) != slices.Max(p.Cells) {
		return api.ErrForm
	}
	return checkNumbers(volts)
}

// checkNumbers returns ErrRange if one of the numbers cannot be a voltage, otherwise OK.
func checkNumbers(l []int) api.Errno {
	for _, v := range l {
		if !within(v, -api.MaxVolt, api.MaxVolt) {
			return api.ErrRange
		}
	}
	return api.OK
}

// Electrodes returns the electrodes of a valid plan, ascending (none of another one).
func Electrodes(p api.Plan) []int {
	if Check(p) != api.OK {
		return nil
	}
	var l []int
	for e := 1; e <= api.MaxElectrodes; e++ {
		if has(p, e) {
			l = append(l, e)
		}
	}
	return l
}

// has reports whether e is an electrode of a plan (0 is none: it stands for vacuum).
func has(p api.Plan, e int) bool { return e != 0 && slices.Contains(p.Cells, e) }

// Weight returns the weight of two cells of a valid plan: 0 if they are no neighbours, if one of the numbers is no cell, and if the plan is not valid.
func Weight(p api.Plan, a, b int) int {
	if Check(p) != api.OK || !within(a, 0, len(p.Cells)-1) {
		return 0
	}
	for cell, weight := range neighbours(p, a) {
		if cell == b {
			return weight
		}
	}
	return 0
}

// neighbours hands out each neighbour of a cell, and the weight of both.
func neighbours(p api.Plan, cell int) iter.Seq2[int, int] {
	return func(yield func(int, int) bool) {
		x, y := cell%p.Wide, cell/p.Wide
		if x > 0 && !yield(cell-1, beside(p, x-1)) {
			return
		}
		if x < p.Wide-1 && !yield(cell+1, beside(p, x)) {
			return
		}
		if y > 0 && !yield(cell-p.Wide, above(p, x)) {
			return
		}
		if y < p.High-1 {
			yield(cell+p.Wide, above(p, x))
		}
	}
}

// beside returns the weight of two cells of one row, in the columns x and x + 1.
func beside(p api.Plan, x int) int {
	if p.Round {
		return 2 * (x + 1)
	}
	return 1
}

// above returns the weight of two neighbours in the column x.
func above(p api.Plan, x int) int {
	if p.Round {
		return 2*x + 1
	}
	return 1
}

// Same reports whether two plans are equal in everything, whether they are valid or not.
func Same(a, b api.Plan) bool {
	return a.Wide == b.Wide && a.High == b.High && a.Round == b.Round && slices.Equal(a.Cells, b.Cells)
}

// Copy returns an equal plan that shares no memory with p.
func Copy(p api.Plan) api.Plan {
	p.Cells = append([]int(nil), p.Cells...)
	return p
}

// within reports whether n is from least to most.
func within(n, least, most int) bool { return least <= n && n <= most }

// roundDown returns n / by for by above 0, rounded to the greatest whole number that is not above. (Go's own division goes towards 0.)
func roundDown(n, by int) int {
	q := n / by
	if n%by < 0 {
		q--
	}
	return q
}

// roundUp returns n / by for by above 0, rounded to the least whole number that is not below.
func roundUp(n, by int) int { return -roundDown(-n, by) }
