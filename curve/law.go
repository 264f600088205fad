// Package curve says what currents a tube has: laws with tolerances, families of curves made of them, what lies inside a family, slopes, narrower laws from readings, and curve files. It is layer 2: see shared/doc/02-curve.md.
package curve

import (
	"math/bits"

	"thermion/api"
)

// CheckLaw returns the first error of a law, otherwise OK.
func CheckLaw(l api.Law) api.Errno {
	bounds := [...]struct{ of, in api.Range }{
		{l.Perv, api.Range{Lo: 0, Hi: api.MaxPerv}},
		{l.Gain, api.Range{Lo: 1, Hi: api.MaxGain}},
		{l.Shift, api.Range{Lo: -api.MaxVolt, Hi: api.MaxVolt}},
		{l.Full, api.Range{Lo: 0, Hi: api.MaxCurrent}},
		{l.Part, api.Range{Lo: 0, Hi: api.Million}},
	}
	for _, b := range bounds {
		if b.of.Lo > b.of.Hi {
			return api.ErrOrder
		}
		if b.of.Lo < b.in.Lo || b.of.Hi > b.in.Hi {
			return api.ErrRange
		}
	}
	return api.OK
}

// checkVolts returns the first error of a law and of two voltages, otherwise OK.
func checkVolts(l api.Law, grid, plate int) api.Errno {
	if e := CheckLaw(l); e != api.OK {
		return e
	}
	if !rightGrid(grid) || !rightPlate(plate) {
		return api.ErrRange
	}
	return api.OK
}

// rightGrid reports whether a grid can have this voltage.
func rightGrid(v int) bool { return within(v, -api.MaxVolt, api.MaxVolt) }

// rightPlate reports whether a plate can have this voltage.
func rightPlate(v int) bool { return within(v, 0, api.MaxVolt) }

// Drive returns the drive of a law at two voltages.
func Drive(l api.Law, grid, plate int) (api.Range, api.Errno) {
	if e := checkVolts(l, grid, plate); e != api.OK {
		return api.Range{}, e
	}
	return drive(l, grid, plate), api.OK
}

// drive is Drive for arguments that are valid.
func drive(l api.Law, grid, plate int) api.Range {
	return api.Range{
		Lo: bounded(grid+l.Shift.Lo+1000*plate/l.Gain.Hi, 0, api.MaxDrive),
		Hi: bounded(grid+l.Shift.Hi+roundUp(1000*plate, l.Gain.Lo), 0, api.MaxDrive),
	}
}

// Current returns the current of a law at two voltages.
func Current(l api.Law, grid, plate int) (api.Range, api.Errno) {
	if e := checkVolts(l, grid, plate); e != api.OK {
		return api.Range{}, e
	}
	return current(l, grid, plate), api.OK
}

// current is Current for arguments that are valid.
func current(l api.Law, grid, plate int) api.Range {
	d := drive(l, grid, plate)
	space := api.Range{
		Lo: l.Perv.Lo * rootDown(d.Lo*d.Lo*d.Lo) / api.Million,
		Hi: roundUp(l.Perv.Hi*rootUp(d.Hi*d.Hi*d.Hi), api.Million),
	}
	whole := api.Range{Lo: min(space.Lo, l.Full.Lo), Hi: min(space.Hi, l.Full.Hi)}
	return api.Range{
		Lo: l.Part.Lo * whole.Lo / api.Million,
		Hi: roundUp(l.Part.Hi*whole.Hi, api.Million),
	}
}

// Of returns the family of a law with these lines.
func Of(l api.Law, grid, plate []int) (api.Family, api.Errno) {
	if e := CheckLaw(l); e != api.OK {
		return api.Family{}, e
	}
	if e := checkLines(grid, plate); e != api.OK {
		return api.Family{}, e
	}
	f := linesOf(grid, plate)
	for i, g := range grid {
		for k, p := range plate {
			c := current(l, g, p)
			f.Low[i][k], f.High[i][k] = c.Lo, c.Hi
		}
	}
	return f, api.OK
}

// within reports whether n is from least to most.
func within(n, least, most int) bool { return least <= n && n <= most }

// bounded brings n to the nearest number from least to most.
func bounded(n, least, most int) int { return min(max(n, least), most) }

// roundUp returns n / by, rounded up, for n of at least 0 and by above 0. (Go's own division rounds such numbers down.)
func roundUp(n, by int) int { return (n + by - 1) / by }

// rootDown returns the root of n, which is at least 0, rounded down. It begins above the root, and comes down as long as that brings it nearer.
func rootDown(n int) int {
	if n == 0 {
		return 0
	}
	root := 1 << ((bits.Len(uint(n)) + 1) / 2)
	for {
		next := (root + n/root) / 2
		if next >= root {
			return root
		}
		root = next
	}
}

// rootUp returns the root of n, which is at least 0, rounded up.
func rootUp(n int) int {
	root := rootDown(n)
	if root*root < n {
		root++
	}
	return root
}
