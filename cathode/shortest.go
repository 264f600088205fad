package cathode

import (
	"iter"
	"slices"

	"thermion/api"
)

// maxTicks is how many ticks a heating of a menu has at most.
const maxTicks = 100

// Shortest returns the shortest schedule of heatings of a menu that surely does what is demanded, as their numbers, and how many ticks it has.
func Shortest(c api.Coat, d api.Demand, menu []api.Heating, most int) (list []int, ticks int, e api.Errno) {
	if e := checkDemand(c, d); e != api.OK {
		return nil, 0, e
	}
	if e := checkMenu(menu, most); e != api.OK {
		return nil, 0, e
	}
	for l := range lists(len(menu), most) { // of as many ticks the first one counts
		schedule := chosen(menu, l)
		n := length(schedule)
		if list != nil && n >= ticks {
			continue
		}
		if verdict, _ := judge(c, d, schedule); verdict == api.Sure {
			list, ticks = slices.Clone(l), n
		}
	}
	if list == nil {
		return nil, 0, api.ErrMissing
	}
	return list, ticks, api.OK
}

// checkMenu returns the first error of a menu and of how many steps there may be, otherwise OK.
func checkMenu(menu []api.Heating, most int) api.Errno {
	if len(menu) == 0 {
		return api.ErrShort
	}
	if len(menu) > api.MaxMenu {
		return api.ErrFull
	}
	if e := CheckSchedule(menu); e != api.OK {
		return e
	}
	for _, h := range menu {
		if h.Ticks > maxTicks {
			return api.ErrRange
		}
	}
	if !within(most, 1, api.MaxList) {
		return api.ErrRange
	}
	return api.OK
}

// chosen returns the schedule of these heatings of a menu.
func chosen(menu []api.Heating, list []int) []api.Heating {
	var l []api.Heating
	for _, i := range list {
		l = append(l, menu[i])
	}
	return l
}

// lists gives all lists of 1 to most numbers below count: those with fewer numbers first, then in lexicographic order. The list that is given is changed afterwards.
func lists(count, most int) iter.Seq[[]int] {
	return func(yield func([]int) bool) {
		for size := 1; size <= most; size++ {
			list := make([]int, size)
			for more := true; more; more = advance(list, count) {
				if !yield(list) {
					return
				}
			}
		}
	}
}

// advance makes a list of numbers below count the next one of its size, and reports whether there is one.
func advance(list []int, count int) bool {
	for i, n := range slices.Backward(list) {
		if n+1 < count {
			list[i]++
			return true
		}
		list[i] = 0
	}
	return false
}
