package curve

import (
	"math/bits"
	"slices"
	"sort"

	"thermion/api"
)

// Check returns the first error of a family, otherwise OK.
func Check(f api.Family) api.Errno {
	if e := checkLines(f.Grid, f.Plate); e != api.OK {
		return e
	}
	if !hasForm(f.Low, f) || !hasForm(f.High, f) {
		return api.ErrForm
	}
	for i := range f.Grid {
		for k := range f.Plate {
			if e := checkPlace(f, i, k); e != api.OK {
				return e
			}
		}
	}
	return api.OK
}

// checkLines returns the first error of the lines of a family, otherwise OK.
func checkLines(grid, plate []int) api.Errno {
	if len(grid) == 0 || len(plate) == 0 {
		return api.ErrShort
	}
	if len(grid) > api.MaxLines || len(plate) > api.MaxLines {
		return api.ErrFull
	}
	if e := checkAscending(grid, rightGrid); e != api.OK {
		return e
	}
	return checkAscending(plate, rightPlate)
}

// checkAscending returns the first error of voltages that have to be right and to ascend, otherwise OK.
func checkAscending(lines []int, right func(v int) bool) api.Errno {
	for i, v := range lines {
		if !right(v) {
			return api.ErrRange
		}
		if i > 0 && v <= lines[i-1] {
			return api.ErrOrder
		}
	}
	return api.OK
}

// hasForm reports whether a table has a row for each line of the grid, and in it a number for each line of the plate.
func hasForm(t [][]int, f api.Family) bool {
	for _, row := range t {
		if len(row) != len(f.Plate) {
			return false
		}
	}
	return len(t) == len(f.Grid)
}

// checkPlace returns the first error of both numbers at a place, otherwise OK.
func checkPlace(f api.Family, i, k int) api.Errno {
	low, high := f.Low[i][k], f.High[i][k]
	if !within(low, 0, api.MaxCurrent) || !within(high, 0, api.MaxCurrent) {
		return api.ErrRange
	}
	if low > high {
		return api.ErrClash
	}
	if k > 0 && (low < f.Low[i][k-1] || high < f.High[i][k-1]) {
		return api.ErrOrder
	}
	if i > 0 && (low < f.Low[i-1][k] || high < f.High[i-1][k]) {
		return api.ErrOrder
	}
	return api.OK
}

// linesOf returns a family with copies of these lines, and tables for them that are full of zeros.
func linesOf(grid, plate []int) api.Family {
	f := api.Family{Grid: copied(grid), Plate: copied(plate)}
	for range grid {
		f.Low = append(f.Low, make([]int, len(plate)))
		f.High = append(f.High, make([]int, len(plate)))
	}
	return f
}

// spot says where a voltage lies between lines: its place, and its part as a fraction (part / whole).
type spot struct{ place, part, whole int }

// spotOf returns where v lies between lines.
func spotOf(lines []int, v int) spot {
	i := sort.SearchInts(lines, v+1) - 1 // the greatest line that is at most v
	if i < 0 {
		return spot{whole: 1}
	}
	if i == len(lines)-1 {
		return spot{place: i, whole: 1}
	}
	return spot{place: i, part: v - lines[i], whole: lines[i+1] - lines[i]}
}

// weights returns how much the line at the place counts, and the next one. (A line that there is not counts nothing.)
func (s spot) weights() [2]int { return [2]int{s.whole - s.part, s.part} }

// fraction is a number of at least 0, as over / under.
type fraction struct{ over, under int }

// value returns the value of a table at two spots. (It is at most MaxCurrent; over and under are at most 2 x 10^18 and 2 x 10^12.)
func value(t [][]int, x, y spot) fraction {
	v := fraction{under: x.whole * y.whole}
	for i, a := range x.weights() {
		for k, b := range y.weights() {
			if a != 0 && b != 0 {
				v.over += a * b * t[x.place+i][y.place+k]
			}
		}
	}
	return v
}

// less reports whether a fraction is less than another one. The products are too great for a word.
func (a fraction) less(b fraction) bool {
	aHigh, aLow := bits.Mul64(uint64(a.over), uint64(b.under))
	bHigh, bLow := bits.Mul64(uint64(b.over), uint64(a.under))
	return aHigh < bHigh || aHigh == bHigh && aLow < bLow
}

// At returns the current of a family at two voltages.
func At(f api.Family, grid, plate int) (api.Range, api.Errno) {
	if e := Check(f); e != api.OK {
		return api.Range{}, e
	}
	if !rightGrid(grid) || !rightPlate(plate) {
		return api.Range{}, api.ErrRange
	}
	x, y := spotOf(f.Grid, grid), spotOf(f.Plate, plate)
	low, high := value(f.Low, x, y), value(f.High, x, y)
	return api.Range{Lo: low.over / low.under, Hi: roundUp(high.over, high.under)}, api.OK
}

// Inside reports whether tube lies inside f; both have to be valid. Between lines of both, values change evenly in each direction: so it is enough to look where these lines meet.
func Inside(f, tube api.Family) bool {
	if Check(f) != api.OK || Check(tube) != api.OK {
		return false
	}
	for _, g := range slices.Concat(f.Grid, tube.Grid) {
		for _, p := range slices.Concat(f.Plate, tube.Plate) {
			if !insideAt(f, tube, g, p) {
				return false
			}
		}
	}
	return true
}

// insideAt reports whether tube lies inside f at two voltages.
func insideAt(f, tube api.Family, grid, plate int) bool {
	x, y := spotOf(f.Grid, grid), spotOf(f.Plate, plate)
	a, b := spotOf(tube.Grid, grid), spotOf(tube.Plate, plate)
	return !value(tube.Low, a, b).less(value(f.Low, x, y)) && !value(f.High, x, y).less(value(tube.High, a, b))
}

// Hull returns the family that holds all families of a list, which have the same lines.
func Hull(l []api.Family) (api.Family, api.Errno) {
	if len(l) == 0 {
		return api.Family{}, api.ErrShort
	}
	if len(l) > api.MaxLines {
		return api.Family{}, api.ErrFull
	}
	for _, f := range l {
		if e := Check(f); e != api.OK {
			return api.Family{}, e
		}
		if !slices.Equal(f.Grid, l[0].Grid) || !slices.Equal(f.Plate, l[0].Plate) {
			return api.Family{}, api.ErrForm
		}
	}
	h := Copy(l[0])
	for _, f := range l[1:] {
		for i := range h.Grid {
			for k := range h.Plate {
				h.Low[i][k] = min(h.Low[i][k], f.Low[i][k])
				h.High[i][k] = max(h.High[i][k], f.High[i][k])
			}
		}
	}
	return h, api.OK
}

// Same reports whether two families are equal, whether they are valid or not.
func Same(a, b api.Family) bool {
	return slices.Equal(a.Grid, b.Grid) && slices.Equal(a.Plate, b.Plate) && sameTable(a.Low, b.Low) && sameTable(a.High, b.High)
}

// sameTable reports whether two tables are equal.
func sameTable(a, b [][]int) bool { return slices.EqualFunc(a, b, slices.Equal[[]int]) }

// Copy returns an equal family that shares no memory with f.
func Copy(f api.Family) api.Family {
	return api.Family{Grid: copied(f.Grid), Plate: copied(f.Plate), Low: copiedTable(f.Low), High: copiedTable(f.High)}
}

// copied returns a copy of a list in memory of its own.
func copied(l []int) []int { return append([]int(nil), l...) }

// copiedTable returns a copy of a table, each row of which has memory of its own.
func copiedTable(t [][]int) [][]int {
	var c [][]int
	for _, row := range t {
		c = append(c, copied(row))
	}
	return c
}
