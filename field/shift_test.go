package field

import (
	"math"
	"testing"

	"thermion/api"
)

// P1.5: shifts, and what hinders them.
func TestShift(t *testing.T) {
	for i, c := range []struct {
		p              api.Plan
		e, right, down int
		want           api.Plan
		err            api.Errno
	}{
		{planG(), 2, 1, 0, drawn(false, "1...3", "1..23", "1...3"), api.OK},
		{planG(), 2, -1, 0, drawn(false, "1...3", "12..3", "1...3"), api.OK},
		{planG(), 2, 0, 1, drawn(false, "1...3", "1...3", "1.2.3"), api.OK},
		{planG(), 2, 0, -1, drawn(false, "1.2.3", "1...3", "1...3"), api.OK},
		{planG(), 2, 1, -1, drawn(false, "1..23", "1...3", "1...3"), api.OK},
		{planG(), 2, 0, 0, planG(), api.OK},
		{planG(), 3, -1, 0, drawn(false, "1..3.", "1.23.", "1..3."), api.OK},
		{planR(), 2, -3, 0, drawn(true, "12..."), api.OK},
		// The cells of an electrode may lie on those that it leaves.
		{drawn(false, "111.", ".1.."), 1, 1, 0, drawn(false, ".111", "..1."), api.OK},
		{drawn(false, ".111"), 1, -1, 0, drawn(false, "111."), api.OK},

		{planG(), 2, 2, 0, api.Plan{}, api.ErrExists},
		{planG(), 2, -2, 0, api.Plan{}, api.ErrExists},
		{planG(), 1, 2, 0, api.Plan{}, api.ErrExists},
		{drawn(false, "12"), 1, 1, 0, api.Plan{}, api.ErrExists},
		{planG(), 2, 0, 2, api.Plan{}, api.ErrRange},
		{planG(), 2, 0, -2, api.Plan{}, api.ErrRange},
		{planG(), 2, 3, 0, api.Plan{}, api.ErrRange},
		{planG(), 2, -3, 0, api.Plan{}, api.ErrRange},
		{planG(), 1, -1, 0, api.Plan{}, api.ErrRange},
		{planG(), 3, 1, 0, api.Plan{}, api.ErrRange}, // not into the next row
		{planG(), 2, 5, -1, api.Plan{}, api.ErrRange},
		// One cell lies on another electrode, and a later one leaves the plan.
		{drawn(false, "12..1"), 1, 1, 0, api.Plan{}, api.ErrRange},
		{planG(), 2, math.MaxInt, 0, api.Plan{}, api.ErrRange},
		{planG(), 2, math.MinInt, 0, api.Plan{}, api.ErrRange},
		{planG(), 2, 0, math.MaxInt, api.Plan{}, api.ErrRange},
		{planG(), 2, 0, math.MinInt, api.Plan{}, api.ErrRange},

		{planG(), 4, 0, 0, api.Plan{}, api.ErrMissing},
		{planG(), 0, 0, 0, api.Plan{}, api.ErrMissing},
		{planG(), 4, 99, 0, api.Plan{}, api.ErrMissing},
		{planG(), -1, 0, 0, api.Plan{}, api.ErrMissing},
		{drawn(false, ".."), 4, 99, 0, api.Plan{}, api.ErrMissing},
		{api.Plan{Wide: 1, High: 1}, 4, 99, 0, api.Plan{}, api.ErrForm},
		{api.Plan{Wide: 2, High: 1, Cells: []int{1, 7}}, 4, 99, 0, api.Plan{}, api.ErrRange},
	} {
		p, e := Shift(c.p, c.e, c.right, c.down)
		if e != c.err || !Same(p, c.want) {
			t.Error(i, p, e)
		}
	}
}

// P1.5: plays that were found by hand. 2 beside 1 counts as much as 3 beside 1 does; with a vacuum cell between them half as much (and between 0 and the whole if nothing was swept).
func TestPlay(t *testing.T) {
	for i, c := range []struct {
		p               api.Plan
		sweeps, k, g, a int
		want            int
	}{
		{drawn(false, "312."), 1, 1, 2, 3, 500},
		{drawn(false, "31.2"), 1, 1, 2, 3, 500},
		{drawn(false, "213."), 1, 1, 2, 3, 0}, // 2 cannot be shifted
		{drawn(false, ".213"), 1, 1, 2, 3, 500},
		{drawn(false, "2.13"), 1, 1, 2, 3, 500},
		{drawn(false, "3", "1", "2", "."), 1, 1, 2, 3, 500},
		{drawn(false, "3", "1", ".", "2"), 1, 1, 2, 3, 500},
		{drawn(false, ".", "2", "1", "3"), 1, 1, 2, 3, 500},
		{drawn(false, "2", ".", "1", "3"), 1, 1, 2, 3, 500},
		{drawn(false, "312."), 0, 1, 2, 3, 1000},
		{drawn(false, "31.2"), 0, 1, 2, 3, 1000},
		// To the left the amplification becomes 1000, to the right it stays between 0 and 1000: the greater of both differences counts.
		{drawn(false, "31.2."), 0, 1, 2, 3, 1000},
		// Behind the screen 4 the grid never counts.
		{drawn(false, "3142."), 3, 1, 2, 3, 0},
		{drawn(false, "123", "133"), 9, 1, 2, 3, 0},
	} {
		if n, e := Play(c.p, c.sweeps, c.k, c.g, c.a); n != c.want || e != api.OK {
			t.Error(i, n, e)
		}
	}
}

// looked returns the amplifications of the shifts by a cell that can be made and have one.
func looked(p api.Plan, sweeps, k, g, a int) []api.Range {
	var l []api.Range
	for right := -1; right <= 1; right++ {
		for down := -1; down <= 1; down++ {
			if right*right+down*down != 1 {
				continue
			}
			q, e := Shift(p, g, right, down)
			if e != api.OK {
				continue
			}
			if r, e := Amplification(q, sweeps, k, g, a); e == api.OK {
				l = append(l, r)
			}
		}
	}
	return l
}

// P1.5 and P1.16: the play is the greatest difference; it is 0 only if all amplifications that it looks at are one number, the same one.
func TestPlayIsTheGreatest(t *testing.T) {
	moved, nothing, skipped := 0, 0, 0
	cases(t, 4, func(p api.Plan, _ []int, sweeps int) {
		l := Electrodes(p)
		if len(p.Cells) > 60 || len(l) < 3 {
			return
		}
		k, g, a := l[0], l[1], l[2]
		still, e := Amplification(p, sweeps, k, g, a)
		play, e2 := Play(p, sweeps, k, g, a)
		if e != e2 || e != api.OK && play != 0 {
			t.Error(play, e, e2)
		}
		if e != api.OK {
			skipped++
			return
		}
		want := 0
		for _, r := range looked(p, sweeps, k, g, a) {
			moved++
			want = max(want, r.Hi-still.Lo, still.Hi-r.Lo)
			if play == 0 && (r != still || r.Lo != r.Hi) {
				t.Error("no play between", still, r)
			}
		}
		if play != want {
			t.Error(play, want)
		}
		if want == 0 {
			nothing++
		}
	})
	if moved < 30 || nothing < 5 || skipped < 5 {
		t.Error("too few cases", moved, nothing, skipped)
	}
}

// P1.5: the errors of Play are those of Amplification without a shift.
func TestPlayErrors(t *testing.T) {
	for i, c := range []struct {
		p               api.Plan
		sweeps, k, g, a int
		want            api.Errno
	}{
		{planG(), 0, 1, 2, 3, api.ErrState},
		{planG(), 9, 1, 1, 3, api.ErrExists},
		{planG(), 9, 1, 4, 3, api.ErrMissing},
		{planG(), 201, 1, 4, 3, api.ErrRange},
		{drawn(false, ".."), 201, 1, 4, 3, api.ErrMissing},
	} {
		if n, e := Play(c.p, c.sweeps, c.k, c.g, c.a); n != 0 || e != c.want {
			t.Error(i, n, e)
		}
	}
}

// P1.5: a shift that has no amplification is passed over. To the left the grid stands all around electrode 1, up it leaves the plan.
func TestPlayPassesOver(t *testing.T) {
	p := drawn(false, "1.2.", ".2..", "3...")
	left, e := Shift(p, 2, -1, 0)
	if e != api.OK || !Same(left, drawn(false, "12..", "2...", "3...")) {
		t.Error(left, e)
	}
	if _, e := Amplification(left, 200, 1, 2, 3); e != api.ErrState {
		t.Error(e)
	}
	still, e := Amplification(p, 200, 1, 2, 3)
	if still != (api.Range{Lo: 2999, Hi: 3001}) || e != api.OK {
		t.Error(still, e)
	}
	if n, e := Play(p, 200, 1, 2, 3); n < 1 || n > 2999 || e != api.OK {
		t.Error(n, e)
	}
	// With electrode 4 in its way it cannot be shifted to the right or down either: nothing is left.
	if n, e := Play(drawn(false, "1.24", ".24.", "3..."), 200, 1, 2, 3); n != 0 || e != api.OK {
		t.Error(n, e)
	}
}

// P1.16: a shift back undoes a shift.
func TestShiftBack(t *testing.T) {
	made := 0
	cases(t, 5, func(p api.Plan, _ []int, _ int) {
		for _, e := range Electrodes(p) {
			for right := -2; right <= 2; right++ {
				for down := -2; down <= 2; down++ {
					q, err := Shift(p, e, right, down)
					if err != api.OK {
						continue
					}
					made++
					back, err := Shift(q, e, -right, -down)
					if err != api.OK || !Same(back, p) {
						t.Error(e, right, down, back, err)
					}
				}
			}
		}
	})
	if made < 1000 {
		t.Error("too few shifts", made)
	}
}
