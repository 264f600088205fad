package field

import (
	"math"
	"slices"
	"strings"
	"testing"

	"thermion/api"
)

// odd are numbers that arguments may have, too.
var odd = []int{math.MinInt, math.MinInt + 15, -1000001, -17, -1, 0, 1, 2, 3, 6, 7, 200, 201, 1 << 32, math.MaxInt - 15, math.MaxInt}

// oddPlans are plans that are hardly any.
func oddPlans() []api.Plan {
	l := []api.Plan{
		{}, planQ(), planR(), planG(),
		{Wide: math.MinInt, High: math.MinInt}, {Wide: math.MaxInt, High: math.MaxInt, Cells: []int{1}},
		{Wide: 1 << 32, High: 1 << 32}, {Wide: -1, High: -1, Cells: []int{1}}, {Wide: 16, High: 16}, {Wide: 0, High: 0, Cells: []int{1, 2}},
		{Wide: 3, High: 1, Cells: make([]int, 3)}, {Wide: 1, High: 1, Cells: []int{6}},
	}
	for _, n := range odd {
		l = append(l, api.Plan{Wide: 2, High: 1, Cells: []int{1, n}}, api.Plan{Wide: n, High: 2, Cells: []int{1, 0}})
	}
	return l
}

// P1, R3, R5: with whatever arguments, each function ends, does not panic, and has nothing but an error with an error.
func TestAnyArguments(t *testing.T) {
	for i, p := range oddPlans() {
		bad := Check(p)
		volts := [][]int{nil, {}, odd, {0, 100}, {math.MinInt, math.MaxInt}, {0}, {0, 0, 5}}
		for _, v := range volts {
			if e := CheckVolts(p, v); bad != api.OK && e != bad {
				t.Error(i, e)
			}
			Good(p, v, v, v)
			Good(p, v, odd, p.Cells)
			for _, n := range odd {
				f, e := Solve(p, v, n)
				r, e2 := Charge(p, v, n, n)
				if e != api.OK && !sameField(f, api.Field{}) || e2 != api.OK && r != none || bad != api.OK && (e != bad || e2 != bad) {
					t.Error(i, v, n, f, e, r, e2)
				}
			}
		}
		for _, n := range odd {
			anyOf(t, p, bad, n)
		}
		s, e := Text(p)
		if e != bad || (s == "") != (e != api.OK) {
			t.Error(i, s, e)
		}
		if bad != api.OK && Electrodes(p) != nil {
			t.Error(i, "electrodes")
		}
		if !Same(p, Copy(p)) {
			t.Error(i, "copy")
		}
	}
	for _, s := range []string{"", "\n", "\n\n\n", "flat\n\x00", "round\n\xff\xfe\n", strings.Repeat("\n", 400), strings.Repeat("flat\n", 80)} {
		if p, row, e := Parse(s); !Same(p, api.Plan{}) || row == 0 || e != api.ErrForm {
			t.Error(s, p, row, e)
		}
	}
}

// anyOf calls the functions that take electrodes and cells with n and other numbers.
func anyOf(t *testing.T, p api.Plan, bad api.Errno, n int) {
	t.Helper()
	for _, m := range odd {
		w := Weight(p, n, m)
		r, e := Influence(p, 1, n, m)
		r2, e2 := Amplification(p, 1, n, m, 1)
		q, e3 := Shift(p, 1, n, m)
		play, e4 := Play(p, 1, 1, n, m)
		if e != api.OK && r != none || e2 != api.OK && r2 != none || e3 != api.OK && !Same(q, api.Plan{}) || e4 != api.OK && play != 0 {
			t.Error(p, n, m, r, r2, q, play)
		}
		if bad != api.OK && (w != 0 || e != bad || e2 != bad || e3 != bad || e4 != bad) {
			t.Error(p, n, m, w, e, e2, e3, e4)
		}
	}
}

// R4: arguments are not changed.
func TestArgumentsAreKept(t *testing.T) {
	cases(t, 31, func(p api.Plan, volts []int, sweeps int) {
		if len(p.Cells) > 60 {
			return
		}
		was, wasVolts := Copy(p), slices.Clone(volts)
		f := solved(t, p, volts, sweeps)
		low, high := slices.Clone(f.Low), slices.Clone(f.High)
		Good(p, volts, f.Low, f.High)
		if !slices.Equal(low, f.Low) || !slices.Equal(high, f.High) {
			t.Error("bounds")
		}
		Check(p)
		CheckVolts(p, volts)
		Weight(p, 0, 1)
		for _, e := range Electrodes(p) {
			Charge(p, volts, sweeps, e)
			Influence(p, sweeps, e, 1)
			Amplification(p, sweeps, 1, e, 2)
			Play(p, sweeps, 1, e, 2)
			Shift(p, e, 1, 0)
			Shift(p, e, 0, -1)
		}
		Text(p)
		Same(p, was)
		Copy(p)
		if !Same(p, was) || !slices.Equal(volts, wasVolts) {
			t.Error(p, was, volts, wasVolts)
		}
	})
}

// R4: results share no memory with arguments, nor with one another.
func TestResultsAreApart(t *testing.T) {
	p, volts := drawn(false, "12"), []int{3, 4}
	f := solved(t, p, volts, 1)
	for i := range f.Low {
		f.Low[i] = -99
	}
	if !slices.Equal(f.High, []int{3, 4}) || !slices.Equal(volts, []int{3, 4}) {
		t.Error(f, volts)
	}
	q, e := Shift(p, 1, 0, 0)
	if e != api.OK || !Same(p, q) {
		t.Fatal(q, e)
	}
	q.Cells[0] = 5
	c := Copy(p)
	c.Cells[1] = 6
	Electrodes(p)[0] = 4
	if !Same(p, drawn(false, "12")) {
		t.Error(p)
	}
}

// R6: a call depends on its arguments alone: the same one has the same result, whatever was called before.
func TestCallsAreAlike(t *testing.T) {
	cases(t, 32, func(p api.Plan, volts []int, sweeps int) {
		f := solved(t, p, volts, sweeps)
		solved(t, planG(), []int{1, 2, 3}, 9)
		if g := solved(t, p, volts, sweeps); !sameField(f, g) {
			t.Error(f, g)
		}
	})
}
