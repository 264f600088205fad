package glass

import (
	"slices"
	"testing"

	"thermion/api"
)

// free returns so many fires that can come in each order.
func free(n int) []api.Fire { return make([]api.Fire, n) }

// P5.1: CheckFires finds each error of fires, and the first one if there are several; all functions of fires return it.
func TestCheckFires(t *testing.T) {
	for i, c := range []struct {
		l    []api.Fire
		want api.Errno
	}{
		{nil, api.OK}, {[]api.Fire{}, api.OK}, {firesF(), api.OK}, {free(8), api.OK}, {free(9), api.ErrFull}, {slices.Repeat([]api.Fire{fire(-1, -1, 9, 9)}, 9), api.ErrFull},
		{[]api.Fire{fire(2000, 2000)}, api.OK}, {[]api.Fire{fire(-1, 0)}, api.ErrRange}, {[]api.Fire{fire(2001, 0)}, api.ErrRange}, {[]api.Fire{fire(0, -1)}, api.ErrRange}, {[]api.Fire{fire(0, 2001)}, api.ErrRange}, {[]api.Fire{{}, fire(0, 2001)}, api.ErrRange},
		{[]api.Fire{{}, fire(5, 5, 0)}, api.OK}, {[]api.Fire{fire(5, 5, 1), {}}, api.OK}, {[]api.Fire{fire(5, 5, 0)}, api.ErrClash}, {[]api.Fire{fire(5, 5, 1)}, api.ErrRange}, {[]api.Fire{fire(5, 5, -1), {}}, api.ErrRange}, {[]api.Fire{fire(5, 5, 2), {}}, api.ErrRange},
		{[]api.Fire{{}, {}, fire(5, 5, 0, 1)}, api.OK}, {[]api.Fire{{}, {}, fire(5, 5, 1, 0)}, api.ErrOrder}, {[]api.Fire{{}, {}, fire(5, 5, 1, 1)}, api.ErrOrder}, {[]api.Fire{{}, fire(5, 5, 0, 2), {}}, api.OK}, {[]api.Fire{{}, fire(5, 5, 0, 1), {}}, api.ErrClash}, {[]api.Fire{{}, fire(5, 5, 0, 1, 2), {}}, api.ErrClash},
		// The first part with an error counts: fire by fire, and number by number.
		{[]api.Fire{fire(-1, 0, 0)}, api.ErrRange}, {[]api.Fire{fire(0, -1, 0)}, api.ErrRange}, {[]api.Fire{fire(5, 5, 0), fire(-1, 5)}, api.ErrClash}, {[]api.Fire{fire(5, 5, 0, 7), {}}, api.ErrClash}, {[]api.Fire{fire(5, 5, 7, 0), {}}, api.ErrRange}, {[]api.Fire{fire(5, 5, 1, 1, 7), {}}, api.ErrOrder}, {[]api.Fire{fire(5, 5, 1, 7, 1), {}}, api.ErrRange},
		// A number of no fire, and one's own number, count before the order.
		{[]api.Fire{fire(5, 5, 1, -1), {}}, api.ErrRange}, {[]api.Fire{{}, {}, {}, fire(5, 5, 1, 0, 3)}, api.ErrOrder}, {[]api.Fire{fire(5, 5, 1, 0), {}}, api.ErrClash}, {[]api.Fire{{}, fire(5, 5, 0, 0, 1)}, api.ErrOrder},
	} {
		if e := CheckFires(c.l); e != c.want {
			t.Error(i, e)
		}
		order, a := First(c.l)
		n, b := Count(c.l)
		if c.want != api.OK && (order != nil || a != c.want || n != 0 || b != c.want || isSomeRight(c.l)) {
			t.Error(i, order, a, n, b)
		}
	}
}

// isSomeRight reports whether Right calls one of all orders right.
func isSomeRight(l []api.Fire) bool {
	if len(l) > api.MaxFires {
		return Right(l, nil) || Right(l, []int{0, 1, 2, 3, 4, 5, 6, 7, 8})
	}
	return slices.ContainsFunc(permutations(len(l)), func(order []int) bool { return Right(l, order) })
}

// P5.4: orders that are right, and some that are not.
func TestRight(t *testing.T) {
	for i, c := range []struct {
		l     []api.Fire
		order []int
		want  bool
	}{
		{firesF(), []int{0, 1, 2}, true}, {firesF(), []int{1, 0, 2}, true}, {firesF(), []int{0, 2, 1}, false}, {firesF(), []int{2, 0, 1}, false}, {firesF(), []int{1, 2, 0}, false}, {firesF(), []int{2, 1, 0}, false},
		{firesF(), nil, false}, {firesF(), []int{1, 0}, false}, {firesF(), []int{1, 0, 2, 2}, false}, {firesF(), []int{1, 0, 0}, false}, {firesF(), []int{1, 0, 3}, false}, {firesF(), []int{1, 0, -1}, false}, {firesF(), []int{1, 1, 1}, false},
		{nil, nil, true}, {nil, []int{}, true}, {[]api.Fire{}, nil, true}, {nil, []int{0}, false}, {free(1), []int{0}, true}, {free(1), []int{1}, false}, {free(1), nil, false}, {free(8), []int{7, 6, 5, 4, 3, 2, 1, 0}, true}, {free(8), []int{7, 6, 5, 4, 3, 2, 1, 7}, false}, {free(9), nil, false}, {free(9), []int{0, 1, 2, 3, 4, 5, 6, 7, 8}, false},
		// A fire's own Hold may be below its Heat: it counts for those behind it alone, all of them.
		{[]api.Fire{fire(900, 0)}, []int{0}, true}, {[]api.Fire{fire(900, 0), fire(0, 0)}, []int{0, 1}, true}, {[]api.Fire{fire(900, 0), fire(0, 0)}, []int{1, 0}, false}, {[]api.Fire{fire(900, 10), fire(10, 900), fire(11, 900)}, []int{2, 1, 0}, true}, {[]api.Fire{fire(900, 10), fire(10, 900), fire(11, 900)}, []int{0, 1, 2}, false}, {[]api.Fire{fire(5, 10), fire(5, 900), fire(11, 900)}, []int{0, 1, 2}, false}, {[]api.Fire{fire(5, 11), fire(5, 900), fire(11, 900)}, []int{0, 1, 2}, true},
		{[]api.Fire{fire(5, 5, 1, 2), fire(5, 5), fire(5, 5)}, []int{1, 2, 0}, true}, {[]api.Fire{fire(5, 5, 1, 2), fire(5, 5), fire(5, 5)}, []int{2, 1, 0}, true}, {[]api.Fire{fire(5, 5, 1, 2), fire(5, 5), fire(5, 5)}, []int{1, 0, 2}, false}, {[]api.Fire{fire(5, 5, 1, 2), fire(5, 5), fire(5, 5)}, []int{2, 0, 1}, false},
		{[]api.Fire{fire(-1, 5)}, []int{0}, false}, {[]api.Fire{fire(5, 5, 0)}, []int{0}, false}, {[]api.Fire{{}, {}, fire(5, 5, 1, 0)}, []int{0, 1, 2}, false},
	} {
		if is := Right(c.l, c.order); is != c.want {
			t.Error(i, is)
		}
	}
}

// P5.4: first orders, and how many there are.
func TestOrders(t *testing.T) {
	held := func(hold int) []api.Fire {
		return []api.Fire{fire(900, hold), fire(1000, 1100), fire(950, 950, 0)}
	}
	for i, c := range []struct {
		l     []api.Fire
		first []int
		count int
		e     api.Errno
	}{
		{firesF(), []int{0, 1, 2}, 2, api.OK}, {held(999), []int{1, 0, 2}, 1, api.OK}, {held(950), []int{1, 0, 2}, 1, api.OK}, {held(949), nil, 0, api.ErrMissing},
		{nil, nil, 1, api.OK}, {[]api.Fire{}, nil, 1, api.OK}, {free(1), []int{0}, 1, api.OK}, {free(4), []int{0, 1, 2, 3}, 24, api.OK}, {free(8), []int{0, 1, 2, 3, 4, 5, 6, 7}, 40320, api.OK},
		{[]api.Fire{fire(0, 0, 1), fire(0, 0, 0)}, nil, 0, api.ErrMissing}, {[]api.Fire{fire(0, 0, 1), {}}, []int{1, 0}, 1, api.OK}, {[]api.Fire{fire(0, 0, 1), fire(0, 0, 2), {}}, []int{2, 1, 0}, 1, api.OK}, {[]api.Fire{fire(0, 0, 1, 2), {}, {}}, []int{1, 2, 0}, 2, api.OK},
		// Hotter ones come first if nothing holds more.
		{[]api.Fire{fire(1, 1), fire(3, 3), fire(2, 2)}, []int{1, 2, 0}, 1, api.OK}, {[]api.Fire{fire(1, 3), fire(3, 3), fire(2, 2)}, []int{0, 1, 2}, 3, api.OK}, {[]api.Fire{fire(2000, 0), fire(2000, 0)}, nil, 0, api.ErrMissing}, {[]api.Fire{fire(2000, 0)}, []int{0}, 1, api.OK}, {[]api.Fire{fire(2000, 2000), fire(2000, 2000)}, []int{0, 1}, 2, api.OK},
	} {
		order, e := First(c.l)
		n, f := Count(c.l)
		if !slices.Equal(order, c.first) || e != c.e || n != c.count || f != api.OK {
			t.Error(i, order, e, n, f)
		}
	}
}

// P5.4, P5.15 (orders): First is right, and no lesser order is; Count counts all right orders, and Right knows them.
func TestOrdersAreThoseOfAll(t *testing.T) {
	some, none := 0, 0
	firesAll(t, 7, 2500, 5, func(d *dice, l []api.Fire) {
		var right [][]int
		for _, order := range permutations(len(l)) {
			is := Right(l, order)
			if is != plainRight(l, order) {
				t.Error(order, is)
			}
			if is {
				right = append(right, order)
			}
		}
		n, e := Count(l)
		if n != len(right) || e != api.OK {
			t.Error(n, e, right)
		}
		order, e := First(l)
		if len(right) == 0 {
			none++
			if order != nil || e != api.ErrMissing {
				t.Error(order, e)
			}
			return
		}
		if some++; !slices.Equal(order, right[0]) || e != api.OK {
			t.Error(order, e, right[0])
		}
	})
	if some < 500 || none < 500 {
		t.Error(some, none)
	}
}
