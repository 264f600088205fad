package mount

import (
	"iter"
	"slices"

	"thermion/api"
)

// Places returns all positions that fit a chain and have point 0 at 0, in lexicographic order.
func Places(c api.Chain) ([][]int, api.Errno) {
	r, e := reachesOf(c)
	if e != api.OK {
		return nil, e
	}
	var all [][]int
	for at := range positions(r, c.Points) {
		if len(all) == api.MaxPlaces {
			return nil, api.ErrFull
		}
		all = append(all, slices.Clone(at))
	}
	return all, api.OK
}

// positions gives all positions that keep to tight ranges and have point 0 at 0, in lexicographic order. The list that is given is changed afterwards.
func positions(r reaches, points int) iter.Seq[[]int] {
	return func(yield func([]int) bool) {
		place(&r, make([]int, 1, points), points, yield)
	}
}

// place gives all positions that begin with those at, and reports whether more are wanted. As ranges are tight, there is a place for each further point, wherever those before it stand.
func place(r *reaches, at []int, points int, yield func([]int) bool) bool {
	if len(at) == points {
		return yield(at)
	}
	room := roomOf(r, at)
	for x := room.Lo; x <= room.Hi; x++ {
		if !place(r, append(at, x), points, yield) {
			return false
		}
	}
	return true
}

// roomOf returns where the point behind those at may stand, with regard to each of them.
func roomOf(r *reaches, at []int) api.Range {
	p := len(at)
	room := api.Range{Lo: -far, Hi: far}
	for a, x := range at {
		gap := r.tight(a, p)
		room.Lo = max(room.Lo, x+gap.Lo)
		room.Hi = min(room.Hi, x+gap.Hi)
	}
	return room
}
