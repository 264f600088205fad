package field

import "thermion/api"

// Shift returns the plan in which the electrode e stands some columns to the right, and some rows down.
func Shift(p api.Plan, e, right, down int) (api.Plan, api.Errno) {
	if err := Check(p); err != api.OK {
		return api.Plan{}, err
	}
	if !has(p, e) {
		return api.Plan{}, api.ErrMissing
	}
	if leaves(p, e, right, down) {
		return api.Plan{}, api.ErrRange
	}
	q := without(p, e)
	for cell, c := range p.Cells {
		if c != e {
			continue
		}
		to := cell + down*p.Wide + right
		if q.Cells[to] != 0 {
			return api.Plan{}, api.ErrExists
		}
		q.Cells[to] = e
	}
	if err := Check(q); err != api.OK {
		return api.Plan{}, err
	}
	return q, api.OK
}

// leaves reports whether a cell of the electrode e would leave the plan. (The steps are held against the room on both sides, as a cell's place and a great number might be more than an int can hold.)
func leaves(p api.Plan, e, right, down int) bool {
	for cell, c := range p.Cells {
		x, y := cell%p.Wide, cell/p.Wide
		if c == e && (!within(right, -x, p.Wide-1-x) || !within(down, -y, p.High-1-y)) {
			return true
		}
	}
	return false
}

// without returns a plan of its own memory, with vacuum instead of the electrode e.
func without(p api.Plan, e int) api.Plan {
	q := Copy(p)
	for cell, c := range q.Cells {
		if c == e {
			q.Cells[cell] = 0
		}
	}
	return q
}

// Play returns by how much the amplification at k, of g against a, may be another one if g is shifted by a cell.
func Play(p api.Plan, sweeps, k, g, a int) (int, api.Errno) {
	still, e := Amplification(p, sweeps, k, g, a)
	if e != api.OK {
		return 0, e
	}
	play := 0
	for _, by := range [4][2]int{{1, 0}, {-1, 0}, {0, 1}, {0, -1}} {
		q, e := Shift(p, g, by[0], by[1])
		if e != api.OK {
			continue
		}
		if moved, e := Amplification(q, sweeps, k, g, a); e == api.OK {
			play = max(play, moved.Hi-still.Lo, still.Hi-moved.Lo)
		}
	}
	return play, api.OK
}
