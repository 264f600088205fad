package glass

import (
	"iter"
	"slices"

	"thermion/api"
)

// CheckFires returns the first error of fires, otherwise OK.
func CheckFires(l []api.Fire) api.Errno {
	if len(l) > api.MaxFires {
		return api.ErrFull
	}
	for own, f := range l {
		if !isHeat(f.Heat) || !isHeat(f.Hold) {
			return api.ErrRange
		}
		for i, n := range f.After {
			switch {
			case !within(n, 0, len(l)-1):
				return api.ErrRange
			case n == own:
				return api.ErrClash
			case i > 0 && n <= f.After[i-1]:
				return api.ErrOrder
			}
		}
	}
	return api.OK
}

// orders yields the right orders of valid fires, in lexicographic order, in which a fire is only at places where it may be. An order that is yielded holds until the next one.
func orders(l []api.Fire, may func(place, fire int) bool) iter.Seq[[]int] {
	return func(yield func(order []int) bool) {
		var order []int
		var search func(lit, hold int) bool
		// lit has the bit of each fire that there has been, all of which hold heats up to hold.
		search = func(lit, hold int) (goOn bool) {
			if len(order) == len(l) {
				return yield(order)
			}
		fires:
			for n, f := range l {
				if lit>>n&1 != 0 || f.Heat > hold || !may(len(order), n) {
					continue
				}
				for _, other := range f.After {
					if lit>>other&1 == 0 {
						continue fires
					}
				}
				order = append(order, n)
				if !search(lit|1<<n, min(hold, f.Hold)) {
					return false
				}
				order = order[:len(order)-1]
			}
			return true
		}
		search(0, api.MaxHeat)
	}
}

// anywhere lets each fire be at each place.
func anywhere(place, fire int) bool { return true }

// Right reports whether fires are valid, and an order of them is right.
func Right(l []api.Fire, order []int) bool {
	if CheckFires(l) != api.OK || len(order) != len(l) {
		return false
	}
	for range orders(l, func(place, fire int) bool { return order[place] == fire }) {
		return true
	}
	return false
}

// First returns the first right order of fires.
func First(l []api.Fire) ([]int, api.Errno) {
	if e := CheckFires(l); e != api.OK {
		return nil, e
	}
	for order := range orders(l, anywhere) {
		return slices.Clone(order), api.OK
	}
	return nil, api.ErrMissing
}

// Count returns how many right orders of fires there are.
func Count(l []api.Fire) (int, api.Errno) {
	if e := CheckFires(l); e != api.OK {
		return 0, e
	}
	n := 0
	for range orders(l, anywhere) {
		n++
	}
	return n, api.OK
}
