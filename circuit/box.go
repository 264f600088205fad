package circuit

import (
	"slices"

	"thermion/api"
)

// nowhere stands for the number of a plate, a case or a corner where there is none.
const nowhere = -1

// Keeps reports whether a net keeps a box.
func Keeps(n api.Net, inputs, box []api.Range) (bool, api.Errno) {
	if e := checkFed(n, inputs); e != api.OK {
		return false, e
	}
	if e := checkRanges(box, len(n.Stages), leastPlate); e != api.OK {
		return false, e
	}
	return fed{wired{n}, inputs}.keeps(box), api.OK
}

// keeps is Keeps for arguments that are valid.
func (f fed) keeps(box []api.Range) bool {
	nodes := slices.Concat(f.inputs, box)
	for i, r := range box {
		if !isIn(f.plate(i, f.grid(i, nodes)), r) {
			return false
		}
	}
	return true
}

// Memory returns the first plate by which two boxes that a net keeps can be told apart.
func Memory(n api.Net, inputs, a, b []api.Range) (plate int, e api.Errno) {
	keepsA, e := Keeps(n, inputs, a)
	if e != api.OK {
		return 0, e
	}
	keepsB, e := Keeps(n, inputs, b)
	if e != api.OK {
		return 0, e
	}
	if !keepsA || !keepsB {
		return nowhere, api.OK
	}
	for i := range a {
		if !meet(a[i], b[i]) {
			return i, api.OK
		}
	}
	return nowhere, api.OK
}
