package curve

import "thermion/api"

// The units of slopes (microamperes for a volt) and yields (nanoamperes for a volt).
const (
	slopeUnit = 1000
	yieldUnit = 1000000
)

// table is a table of a family, seen in one of its directions: at(i, k) is its number at the line i of this direction, and the line k of the other one.
type table interface {
	~[][]int
	at(i, k int) int
}

// byGrid is a table as it is: its rows belong to the lines of the grid.
type byGrid [][]int

func (t byGrid) at(i, k int) int { return t[i][k] }

// byPlate is a table whose columns, which belong to the lines of the plate, are taken for rows.
type byPlate [][]int

func (t byPlate) at(i, k int) int { return t[k][i] }

// steepness returns by how much, in a unit, the current rises for each millivolt in a cell of the lines, at the voltage v in the other direction, whose lines are others.
func steepness[T table](low, high T, lines, others []int, cell, v, unit int) api.Range {
	s := spotOf(others, v)
	var rise api.Range
	for i, weight := range s.weights() {
		if weight == 0 {
			continue
		}
		k := s.place + i
		rise.Lo += weight * max(0, low.at(cell+1, k)-high.at(cell, k))
		rise.Hi += weight * (high.at(cell+1, k) - low.at(cell, k))
	}
	by := (lines[cell+1] - lines[cell]) * s.whole
	return api.Range{Lo: unit * rise.Lo / by, Hi: roundUp(unit*rise.Hi, by)}
}

// slope is Slope for arguments that are valid.
func slope(f api.Family, cell, plate int) api.Range {
	return steepness(byGrid(f.Low), byGrid(f.High), f.Grid, f.Plate, cell, plate, slopeUnit)
}

// yield is Yield for arguments that are valid.
func yield(f api.Family, grid, cell int) api.Range {
	return steepness(byPlate(f.Low), byPlate(f.High), f.Plate, f.Grid, cell, grid, yieldUnit)
}

// isCell reports whether there is a cell of this number between lines.
func isCell(lines []int, cell int) bool { return within(cell, 0, len(lines)-2) }

// Slope returns the slope in a cell of the grid, at a voltage of the plate.
func Slope(f api.Family, cell, plate int) (api.Range, api.Errno) {
	if e := Check(f); e != api.OK {
		return api.Range{}, e
	}
	if !isCell(f.Grid, cell) {
		return api.Range{}, api.ErrMissing
	}
	if !rightPlate(plate) {
		return api.Range{}, api.ErrRange
	}
	return slope(f, cell, plate), api.OK
}

// Yield returns the yield in a cell of the plate, at a voltage of the grid.
func Yield(f api.Family, grid, cell int) (api.Range, api.Errno) {
	if e := Check(f); e != api.OK {
		return api.Range{}, e
	}
	if !rightGrid(grid) {
		return api.Range{}, api.ErrRange
	}
	if !isCell(f.Plate, cell) {
		return api.Range{}, api.ErrMissing
	}
	return yield(f, grid, cell), api.OK
}

// Gain returns the amplification, in thousandths, in the cells i of the grid and k of the plate.
func Gain(f api.Family, i, k int) (api.Range, api.Errno) {
	if e := Check(f); e != api.OK {
		return api.Range{}, e
	}
	if !isCell(f.Grid, i) || !isCell(f.Plate, k) {
		return api.Range{}, api.ErrMissing
	}
	s := hull(slope(f, i, f.Plate[k]), slope(f, i, f.Plate[k+1]))
	c := hull(yield(f, f.Grid[i], k), yield(f, f.Grid[i+1], k))
	if c.Lo == 0 { // the plate may count nothing, against which nothing can be held
		return api.Range{}, api.ErrUnsure
	}
	return api.Range{Lo: api.Million * s.Lo / c.Hi, Hi: roundUp(api.Million*s.Hi, c.Lo)}, api.OK
}

// hull returns the range from the lesser Lo to the greater Hi of two.
func hull(a, b api.Range) api.Range {
	return api.Range{Lo: min(a.Lo, b.Lo), Hi: max(a.Hi, b.Hi)}
}
