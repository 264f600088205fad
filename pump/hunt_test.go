package pump

import (
	"slices"
	"testing"

	"thermion/api"
)

// huntFaults are the faults of huntH with another test, of 1 and 3, in the order in which they are found.
func huntFaults() []fault[api.Hunt] {
	return []fault[api.Hunt]{
		{func(h *api.Hunt) { h.Suspects += 9 }, api.ErrRange}, {func(h *api.Hunt) { h.Trials = append(h.Trials, make([]api.Trial, 9)...) }, api.ErrFull},
		{func(h *api.Hunt) { h.Trials[0].Of[0] = -1 }, api.ErrMissing}, {func(h *api.Hunt) { h.Trials[0].Cost = 1001 }, api.ErrRange}, {func(h *api.Hunt) { h.Trials[1].Of = []int{1, 1, 7} }, api.ErrOrder}, {func(h *api.Hunt) { h.Trials[1].Cost = -1 }, api.ErrRange}, {func(h *api.Hunt) { h.Trials[2].Of = []int{0, 13, 1} }, api.ErrMissing}, {func(h *api.Hunt) { h.Trials[3].Of[1] = 0 }, api.ErrOrder}, {func(h *api.Hunt) { h.Trials[3].Cost = 1001 }, api.ErrRange},
	}
}

// huntX is huntH with another test.
func huntX() api.Hunt {
	h := huntH()
	h.Trials = append(h.Trials, test(5, 1, 3))
	return h
}

// P6.5: CheckHunt finds each error of a hunt, and the first one if there are several; Worst and Find return it.
func TestCheckHunt(t *testing.T) {
	check := func(h api.Hunt) api.Errno {
		e := CheckHunt(h)
		cost, trial, a := Worst(h, []int{0})
		l, sum, b := Find(h, 0)
		_, _, c := Worst(h, nil)
		_, _, d := Find(h, -1)
		if a != e || b != e || e != api.OK && (c != e || d != e || cost != 0 || trial != 0 || l != nil || sum != 0) || e == api.OK && (c != api.ErrShort || d != api.ErrMissing) {
			t.Error(h, e, a, b, c, d, cost, trial, l, sum)
		}
		return e
	}
	inOrder(t, huntX, huntFaults(), check)
	for i, c := range []struct {
		h    api.Hunt
		want api.Errno
	}{
		{huntH(), api.OK}, {api.Hunt{}, api.ErrRange}, {huntOf(-1), api.ErrRange}, {huntOf(0, make([]api.Trial, 13)...), api.ErrRange}, {huntOf(1), api.OK}, {huntOf(1, make([]api.Trial, 12)...), api.OK}, {huntOf(1, make([]api.Trial, 13)...), api.ErrFull}, {huntOf(1, slices.Repeat([]api.Trial{test(-1, 7)}, 13)...), api.ErrFull}, {huntOf(13), api.ErrRange},
		{huntOf(1, test(0, 0)), api.OK}, {huntOf(1, test(1000)), api.OK}, {huntOf(1, test(1001)), api.ErrRange}, {huntOf(1, test(-1)), api.ErrRange}, {huntOf(1, test(0, 1)), api.ErrMissing}, {huntOf(1, test(0, -1)), api.ErrMissing}, {huntOf(1, test(0, 0, 0)), api.ErrOrder}, {huntOf(1, test(-1, 1)), api.ErrMissing}, {huntOf(1, test(-1, 0, 0)), api.ErrOrder},
		{huntOf(3, test(0, 0, 1, 2)), api.OK}, {huntOf(3, test(0, 0, 2, 1)), api.ErrOrder}, {huntOf(3, test(0, 0, 3, 1)), api.ErrMissing}, {huntOf(3, test(0, 1, 0, 3)), api.ErrOrder}, {huntOf(3, test(0, 1, -1)), api.ErrMissing}, {huntOf(3, test(0, 0, 2), test(0, 2, 0)), api.ErrOrder}, {huntOf(3, test(-1, 0, 2), test(0, 2, 0)), api.ErrRange},
	} {
		if e := CheckHunt(c.h); e != c.want {
			t.Error(i, e)
		}
	}
	if l, cost, e := Find(huntOf(1, make([]api.Trial, 12)...), 0); l != nil || cost != 0 || e != api.OK {
		t.Error(l, cost, e)
	}
	// Twelve suspects, the last one of which is in a test.
	if cost, trial, e := Worst(huntOf(12, test(1, 11)), []int{0, 11}); cost != 1 || trial != 0 || e != api.OK {
		t.Error(cost, trial, e)
	}
}

// dearHunt has a dear test that tells all apart by halves, and cheap ones that do it one by one.
func dearHunt() api.Hunt { return huntOf(4, test(9, 0, 1), test(1, 0), test(1, 1), test(1, 2)) }

// P6.5: the worst cases of small hunts, and errors with suspects.
func TestWorst(t *testing.T) {
	less := huntH()
	less.Trials = less.Trials[:2]
	for i, c := range []struct {
		h           api.Hunt
		suspects    []int
		cost, trial int
		e           api.Errno
	}{
		{huntH(), []int{0, 1, 2, 3}, 2, 1, api.OK}, {huntH(), []int{1, 3}, 1, 1, api.OK}, {huntH(), []int{2}, 0, -1, api.OK}, {huntH(), []int{0, 2, 3}, 2, 0, api.OK}, {huntH(), []int{0, 1}, 1, 0, api.OK}, {huntH(), []int{2, 3}, 1, 2, api.OK}, {less, []int{0, 1, 2, 3}, 0, 0, api.ErrUnsure}, {less, []int{0, 1, 2}, 2, 0, api.OK}, {less, []int{2, 3}, 0, 0, api.ErrUnsure}, {less, []int{3}, 0, -1, api.OK},
		{huntH(), nil, 0, 0, api.ErrShort}, {huntH(), []int{}, 0, 0, api.ErrShort}, {huntH(), []int{4}, 0, 0, api.ErrMissing}, {huntH(), []int{-1}, 0, 0, api.ErrMissing}, {huntH(), []int{1, 0}, 0, 0, api.ErrOrder}, {huntH(), []int{1, 1}, 0, 0, api.ErrOrder}, {huntH(), []int{0, 1, 1, 4}, 0, 0, api.ErrOrder}, {huntH(), []int{0, 1, 4, 1}, 0, 0, api.ErrMissing}, {huntH(), []int{3, -1}, 0, 0, api.ErrMissing}, {less, []int{2, 3, 4}, 0, 0, api.ErrMissing}, {less, []int{3, 2}, 0, 0, api.ErrOrder},
		{dearHunt(), []int{0, 1, 2, 3}, 3, 1, api.OK}, {dearHunt(), []int{0, 3}, 1, 1, api.OK}, {dearHunt(), []int{1, 2}, 1, 2, api.OK}, {dearHunt(), []int{1, 3}, 1, 2, api.OK},
		{huntOf(2), []int{0, 1}, 0, 0, api.ErrUnsure}, {huntOf(2), []int{1}, 0, -1, api.OK}, {huntOf(2, test(0, 0, 1)), []int{0, 1}, 0, 0, api.ErrUnsure}, {huntOf(2, test(0)), []int{0, 1}, 0, 0, api.ErrUnsure}, {huntOf(2, test(0, 1)), []int{0, 1}, 0, 0, api.OK}, {huntOf(2, test(1000, 1)), []int{0, 1}, 1000, 0, api.OK},
		// The greater one of both parts counts, and of equal costs the first test.
		{huntOf(3, test(5, 0), test(1, 1), test(3, 2)), []int{0, 1, 2}, 4, 1, api.OK}, {huntOf(3, test(3, 0), test(3, 1), test(3, 2)), []int{0, 1, 2}, 6, 0, api.OK}, {huntOf(3, test(4, 0), test(3, 1), test(3, 2)), []int{0, 1, 2}, 6, 1, api.OK}, {huntOf(3, test(3, 1, 2), test(3, 0), test(3, 2)), []int{1, 2}, 3, 2, api.OK}, {huntOf(2, test(2, 0), test(1, 1), test(1, 0)), []int{0, 1}, 1, 1, api.OK}, {huntOf(2, test(0, 0, 1), test(0), test(0, 0), test(0, 1)), []int{0, 1}, 0, 2, api.OK},
		// A test whose parts can't be told apart is none, whatever it costs.
		{huntOf(3, test(0, 0), test(7, 1), test(7, 1)), []int{0, 1, 2}, 7, 0, api.OK}, {huntOf(4, test(0, 0, 1), test(0, 0, 1), test(5, 0)), []int{0, 1, 2, 3}, 0, 0, api.ErrUnsure}, {huntOf(4, test(0, 0, 1), test(0, 0, 1), test(5, 0)), []int{0, 1, 2}, 5, 0, api.OK}, {huntOf(4, test(0, 0, 1), test(0, 0, 1), test(5, 0)), []int{0, 1}, 5, 2, api.OK},
	} {
		cost, trial, e := Worst(c.h, c.suspects)
		if cost != c.cost || trial != c.trial || e != c.e {
			t.Error(i, cost, trial, e)
		}
	}
}

// P6.5: hunts that were followed by hand, and errors with a leak.
func TestFind(t *testing.T) {
	less := huntH()
	less.Trials = less.Trials[:2]
	no := func(n int) api.Try { return api.Try{Trial: n} }
	yes := func(n int) api.Try { return api.Try{Trial: n, In: true} }
	for i, c := range []struct {
		h    api.Hunt
		leak int
		l    []api.Try
		cost int
		e    api.Errno
	}{
		{huntH(), 0, []api.Try{yes(1), yes(0)}, 2, api.OK}, {huntH(), 1, []api.Try{yes(1), no(0)}, 2, api.OK}, {huntH(), 2, []api.Try{no(1), yes(2)}, 2, api.OK}, {huntH(), 3, []api.Try{no(1), no(2)}, 2, api.OK},
		{dearHunt(), 0, []api.Try{yes(1)}, 1, api.OK}, {dearHunt(), 1, []api.Try{no(1), yes(2)}, 2, api.OK}, {dearHunt(), 2, []api.Try{no(1), no(2), yes(3)}, 3, api.OK}, {dearHunt(), 3, []api.Try{no(1), no(2), no(3)}, 3, api.OK},
		{huntOf(1), 0, nil, 0, api.OK}, {huntOf(1, test(9, 0)), 0, nil, 0, api.OK}, {huntOf(2, test(9, 1)), 0, []api.Try{no(0)}, 9, api.OK}, {huntOf(2, test(0, 1)), 1, []api.Try{yes(0)}, 0, api.OK},
		{huntH(), 4, nil, 0, api.ErrMissing}, {huntH(), -1, nil, 0, api.ErrMissing}, {less, 0, nil, 0, api.ErrUnsure}, {less, 3, nil, 0, api.ErrUnsure}, {less, 4, nil, 0, api.ErrMissing}, {huntOf(1), 1, nil, 0, api.ErrMissing}, {huntOf(2), 0, nil, 0, api.ErrUnsure},
	} {
		l, cost, e := Find(c.h, c.leak)
		if !slices.Equal(l, c.l) || cost != c.cost || e != c.e {
			t.Error(i, l, cost, e)
		}
	}
}

// P6.5: costs and best tests are those that one finds by looking at all tests of all parts.
func TestWorstIsThatOfAll(t *testing.T) {
	told, not := 0, 0
	hunts(t, 30, 4000, 6, 7, func(d *dice, h api.Hunt) {
		l := d.some(h)
		cost, trial, e := Worst(h, l)
		want, best := plainWorst(h, l)
		if want == never {
			if not++; cost != 0 || trial != 0 || e != api.ErrUnsure {
				t.Error(l, cost, trial, e)
			}
			return
		}
		if told++; cost != want || trial != best || e != api.OK {
			t.Error(l, cost, trial, e, want, best)
		}
	})
	if told < 500 || not < 500 {
		t.Error(told, not)
	}
}

// P6.5: each test of Find is the best one for those who are left.
func TestFindMakesTheBestTests(t *testing.T) {
	found := 0
	hunts(t, 31, 4000, 12, 12, func(d *dice, h api.Hunt) {
		all, leak := everyone(h), d.upTo(h.Suspects)
		_, _, not := Worst(h, all)
		l, cost, e := Find(h, leak)
		if e != not {
			t.Error(leak, l, cost, e, not)
		}
		if e != api.OK {
			return
		}
		found++
		left, sum := all, 0
		for _, try := range l {
			if _, trial, e := Worst(h, left); trial != try.Trial || e != api.OK || len(left) < 2 {
				t.Fatal(leak, l, left, trial, e)
			}
			in, out := parted(left, h.Trials[try.Trial])
			sum += h.Trials[try.Trial].Cost
			left = out
			if try.In {
				left = in
			}
		}
		if !slices.Equal(left, []int{leak}) || sum != cost {
			t.Error(leak, l, cost, left, sum)
		}
	})
	if found < 500 {
		t.Error(found)
	}
}

// everyone returns all suspects of a hunt.
func everyone(h api.Hunt) []int {
	l := make([]int, h.Suspects)
	for n := range l {
		l[n] = n
	}
	return l
}
