package mount

import (
	"slices"
	"testing"

	"thermion/api"
)

// jigged makes a kit of parts with these jigs, each of which takes a tick.
func jigged(change int, jigs ...int) api.Kit {
	k := api.Kit{Change: change}
	for _, j := range jigs {
		k.Parts = append(k.Parts, api.Part{Jig: j, Ticks: 1})
	}
	return k
}

// P4.5: stuck states that were found by hand.
func TestStuck(t *testing.T) {
	for i, c := range []struct {
		k    api.Kit
		want []int
		is   bool
	}{
		{kitK(), []int{0, 1}, true},
		{api.Kit{}, nil, false},
		{free(14), nil, false},
		{parts(needing(1), needing(0)), nil, true}, // stuck from the beginning
		{parts(api.Part{}, needing(2), needing(1)), []int{0}, true},
		{parts(barred(1), barred(0)), []int{0}, true},
		{parts(api.Part{}, barred(0), api.Part{}), []int{0, 2}, true},
		{parts(api.Part{}, api.Part{}, barred(1)), []int{0, 1}, true},             // not 1 0, which leads there, too
		{parts(needing(3), barred(3), needing(1), api.Part{}), []int{3, 0}, true}, // 3 bars 1, which 2 needs
		{parts(barred(3), api.Part{}, api.Part{}, needing(2)), []int{1, 2, 3}, true},
		{parts(barred(3), barred(2), api.Part{}, barred(2)), []int{0, 2}, true}, // 3 2, as short, comes behind
		{parts(needing(1, 2), needing(2), barred(0, 1)), nil, false},
	} {
		if order, is, e := Stuck(c.k); !slices.Equal(order, c.want) || is != c.is || e != api.OK {
			t.Error(i, order, is, e)
		}
	}
}

// P4.5: how many whole orders there are.
func TestOrders(t *testing.T) {
	row := api.Kit{Parts: make([]api.Part, 14)}
	for p := 1; p < 14; p++ {
		row.Parts[p].Needs = []int{p - 1}
	}
	pairs := api.Kit{Parts: make([]api.Part, 14)}
	for p := 1; p < 14; p += 2 {
		pairs.Parts[p].Needs = []int{p - 1}
	}
	for i, c := range []struct {
		k    api.Kit
		want int
	}{
		{kitK(), 2},
		{api.Kit{}, 1},
		{free(1), 1},
		{free(4), 24},
		{free(14), 87178291200},
		{row, 1},
		{pairs, 681080400}, // 14! / 2^7
		{parts(needing(1), needing(0)), 0},
		{parts(barred(1), barred(0)), 0},
		{parts(barred(1), api.Part{}), 1},
		{parts(api.Part{}, needing(0), needing(0)), 2},
		{parts(barred(1, 2), needing(0), needing(0, 1)), 1},
	} {
		if n, e := Orders(c.k); n != c.want || e != api.OK {
			t.Error(i, n, e)
		}
	}
}

// P4.5: fastest orders that were found by hand.
func TestFastest(t *testing.T) {
	last := jigged(5, 1, 2, 1, 2)
	last.Parts[0].Needs = []int{1}
	for i, c := range []struct {
		k     api.Kit
		want  []int
		ticks int
	}{
		{kitK(), []int{0, 2, 1}, 19},
		{api.Kit{}, nil, 0},
		{api.Kit{Change: 9}, nil, 0},
		{free(14), []int{0, 1, 2, 3, 4, 5, 6, 7, 8, 9, 10, 11, 12, 13}, 0},
		{jigged(5, 1), []int{0}, 1}, // there is no change before the first part
		{jigged(5, 8), []int{0}, 1},
		{jigged(5, 0, 0), []int{0, 1}, 2},
		{jigged(5, 0, 1), []int{0, 1}, 7},
		{jigged(5, 1, 0), []int{0, 1}, 7},
		{jigged(5, 1, 2, 1, 2), []int{0, 2, 1, 3}, 9},
		{jigged(0, 1, 2, 1, 2), []int{0, 1, 2, 3}, 4}, // changes that take no time
		{last, []int{1, 3, 0, 2}, 9},
		{jigged(10000, 0, 1, 2, 3, 4, 5, 6, 7, 8, 0, 1, 2, 3, 4), []int{0, 9, 1, 10, 2, 11, 3, 12, 4, 13, 5, 6, 7, 8}, 80014},
		{parts(needing(1), api.Part{Ticks: 10000}), []int{1, 0}, 10000},
	} {
		if order, ticks, e := Fastest(c.k); !slices.Equal(order, c.want) || ticks != c.ticks || e != api.OK {
			t.Error(i, order, ticks, e)
		}
	}
	for i, k := range []api.Kit{parts(needing(1), needing(0)), parts(barred(1), barred(0)), parts(api.Part{Ticks: 5}, needing(2), needing(1))} {
		if order, ticks, e := Fastest(k); order != nil || ticks != 0 || e != api.ErrState {
			t.Error(i, order, ticks, e)
		}
	}
}

// P4.5: what is returned, and what is found if all orders are tried.
func TestOrdersPlainly(t *testing.T) {
	stuckOnes, states := 0, 0
	kits(t, 5, 1500, 6, func(d *dice, k api.Kit) {
		ends, whole := plainEnds(k, nil), plainWhole(k, nil)
		if n, e := Orders(k); n != len(whole) || e != api.OK {
			t.Error(n, len(whole), e)
		}
		stuckPlainly(t, k, ends)
		if len(ends) > len(whole) {
			stuckOnes++
		}
		order, ticks, e := Fastest(k)
		if len(whole) == 0 {
			states++
			if order != nil || ticks != 0 || e != api.ErrState {
				t.Error(order, ticks, e)
			}
			return
		}
		best := slices.MinFunc(whole, func(a, b []int) int { return plainTime(k, a) - plainTime(k, b) }) // the first one
		if !slices.Equal(order, best) || ticks != plainTime(k, best) || e != api.OK {
			t.Error(order, ticks, best, e)
		}
	})
	if stuckOnes < 300 || states < 200 || states > 1200 {
		t.Error("too few cases", stuckOnes, states)
	}
}

// stuckPlainly checks Stuck against all orders behind which no part may go in.
func stuckPlainly(t *testing.T, k api.Kit, ends [][]int) {
	t.Helper()
	stuck := slices.DeleteFunc(slices.Clone(ends), func(l []int) bool { return len(l) == len(k.Parts) })
	order, is, e := Stuck(k)
	if len(stuck) == 0 {
		if order != nil || is || e != api.OK {
			t.Error(order, is, e)
		}
		return
	}
	want := slices.MinFunc(stuck, func(a, b []int) int { return len(a) - len(b) }) // the first one
	if !slices.Equal(order, want) || !is || e != api.OK {
		t.Error(order, want, is, e)
	}
}
