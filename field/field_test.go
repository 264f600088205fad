package field

import (
	"slices"
	"testing"

	"thermion/api"
)

// P1.1: Check finds each error, and the first one if there are several.
func TestCheck(t *testing.T) {
	for i, c := range []struct {
		p    api.Plan
		want api.Errno
	}{
		{planQ(), api.OK},
		{planR(), api.OK},
		{planG(), api.OK},
		{drawn(false, "6"), api.OK},
		{drawn(false, "1.", ".."), api.OK},
		{drawn(false, "12"), api.OK},
		{api.Plan{Wide: 16, High: 16, Cells: slices.Repeat([]int{0, 0, 0, 5}, 64)}, api.OK},

		{api.Plan{}, api.ErrRange},
		{api.Plan{Wide: 0, High: 1}, api.ErrRange},
		{api.Plan{Wide: 1, High: 0}, api.ErrRange},
		{api.Plan{Wide: -1, High: -1, Cells: []int{1}}, api.ErrRange},
		{api.Plan{Wide: 17, High: 1, Cells: make([]int, 17)}, api.ErrRange},
		{api.Plan{Wide: 1, High: 17, Cells: make([]int, 17)}, api.ErrRange},

		{api.Plan{Wide: 1, High: 1}, api.ErrForm},
		{api.Plan{Wide: 5, High: 1, Cells: []int{1, 0, 0, 0}}, api.ErrForm},
		{api.Plan{Wide: 2, High: 1, Cells: []int{1, 2, 3}}, api.ErrForm},
		{api.Plan{Wide: 2, High: 1, Cells: []int{7}}, api.ErrForm},

		{api.Plan{Wide: 5, High: 1, Cells: []int{1, 0, 0, 0, 7}}, api.ErrRange},
		{api.Plan{Wide: 2, High: 1, Cells: []int{0, -1}}, api.ErrRange},

		{drawn(false, ".."), api.ErrMissing},
		{drawn(true, "."), api.ErrMissing},
	} {
		if e := Check(c.p); e != c.want {
			t.Error(i, c.p, e)
		}
	}
}

// P1.1: of the vacuum cells of a whole rectangle with an electrode none is loose; all plans of a few cells are tried.
func TestNothingIsLoose(t *testing.T) {
	for _, side := range [][2]int{{1, 1}, {9, 1}, {1, 9}, {3, 3}, {4, 3}} {
		p := api.Plan{Wide: side[0], High: side[1]}
		for set := range 1 << (side[0] * side[1]) {
			p.Cells = nil
			for i := range side[0] * side[1] {
				p.Cells = append(p.Cells, set>>i&1)
			}
			want := api.OK
			if set == 0 {
				want = api.ErrMissing
			}
			if e := Check(p); e != want {
				t.Fatal(p, e)
			}
		}
	}
}

// P1.1: the look for loose cells itself, with cells beyond the last row, to which no way leads.
func TestLoose(t *testing.T) {
	for _, p := range []api.Plan{drawn(false, "1.", "..", ".."), drawn(false, "1", ".", "."), drawn(false, "12", "21", "..")} {
		if loose(p) {
			t.Error("a way is not found", p)
		}
		p.High = 2
		if !loose(p) {
			t.Error("cells without a way are not found", p)
		}
	}
}

// P1.1: CheckVolts returns the plan's error, then that of the voltages.
func TestCheckVolts(t *testing.T) {
	left := drawn(false, "2.4") // the electrodes 1 and 3 are left out, and have voltages all the same
	for i, c := range []struct {
		p     api.Plan
		volts []int
		want  api.Errno
	}{
		{planQ(), []int{0, 100}, api.OK},
		{planQ(), []int{-1000000, 1000000}, api.OK},
		{left, []int{9, 1, 9, 2}, api.OK},
		{planQ(), []int{0}, api.ErrForm},
		{planQ(), []int{0, 1, 2}, api.ErrForm},
		{planQ(), nil, api.ErrForm},
		{planQ(), []int{1000001}, api.ErrForm},
		{left, []int{1, 2}, api.ErrForm},
		{planQ(), []int{0, 1000001}, api.ErrRange},
		{planQ(), []int{-1000001, 0}, api.ErrRange},
		{left, []int{0, 0, 1000001, 0}, api.ErrRange},
		{api.Plan{}, []int{1000001}, api.ErrRange},
		{api.Plan{Wide: 1, High: 1}, []int{1000001}, api.ErrForm},
		{drawn(false, ".."), nil, api.ErrMissing},
	} {
		if e := CheckVolts(c.p, c.volts); e != c.want {
			t.Error(i, e)
		}
	}
}

// P1.1: the electrodes ascend, each comes once, and vacuum is none.
func TestElectrodes(t *testing.T) {
	for i, c := range []struct {
		p    api.Plan
		want []int
	}{
		{planQ(), []int{1, 2}},
		{planG(), []int{1, 2, 3}},
		{drawn(false, "6.5", "2.5"), []int{2, 5, 6}},
		{drawn(false, "654321"), []int{1, 2, 3, 4, 5, 6}},
		{drawn(false, ".."), nil},
		{api.Plan{Wide: 2, High: 1, Cells: []int{1, 7}}, nil},
		{api.Plan{Wide: 2, High: 1, Cells: []int{1}}, nil},
	} {
		if l := Electrodes(c.p); !slices.Equal(l, c.want) {
			t.Error(i, l)
		}
	}
}

// P1.1: the weights of the examples, and of cells that have none.
func TestWeight(t *testing.T) {
	for i, c := range []struct {
		p          api.Plan
		a, b, want int
	}{
		{planQ(), 0, 1, 1}, {planQ(), 0, 2, 0}, {planR(), 0, 1, 2}, {planR(), 3, 4, 8}, {planG(), 0, 5, 1},
		{planQ(), 3, 3, 0}, {planQ(), 4, 5, 0}, {planQ(), 5, 4, 0}, {planQ(), -1, 0, 0}, {planQ(), 0, -1, 0},
		{planG(), 4, 5, 0}, {planG(), 5, 4, 0}, {planG(), 0, 6, 0}, {planG(), 10, 15, 0},
		{api.Plan{Wide: 2, High: 1, Cells: []int{0, 0}}, 0, 1, 0},
		{api.Plan{Wide: 2, High: 1, Cells: []int{1, 7}}, 0, 1, 0},
		{api.Plan{Wide: 2, High: 1, Cells: []int{1}}, 0, 1, 0},
	} {
		if w := Weight(c.p, c.a, c.b); w != c.want {
			t.Error(i, w)
		}
	}
}

// P1.1: the weights of all pairs of numbers in and around plans, as their columns and rows say.
func TestAllWeights(t *testing.T) {
	for _, round := range []bool{false, true} {
		for _, rows := range [][]string{{"1"}, {"1..."}, {"1", ".", "."}, {"..1", ".2.", "...", "3.."}} {
			p := drawn(round, rows...)
			for a := range p.Cells {
				for b := range p.Cells {
					if w := Weight(p, a, b); w != apart(p, a, b) {
						t.Error(p, a, b, w)
					}
				}
				for _, out := range []int{-1, -p.Wide, len(p.Cells), a - len(p.Cells), a + len(p.Cells)} {
					if Weight(p, a, out) != 0 || Weight(p, out, a) != 0 {
						t.Error(p, a, out)
					}
				}
			}
		}
	}
}

// P1.6: Same sees each part of a plan; Copy shares nothing. Both take plans that are not valid.
func TestSameAndCopy(t *testing.T) {
	plans := []api.Plan{
		planQ(), planR(), planG(),
		{}, {Wide: 5}, {High: 5}, {Round: true}, {Cells: []int{0}}, {Cells: []int{-7, 99}}, {Cells: []int{-7, 98}},
		{Wide: -3, High: 1 << 40, Cells: []int{1, 2, 3}},
	}
	for i, a := range plans {
		for j, b := range plans {
			if Same(a, b) != (i == j) {
				t.Error(i, j)
			}
		}
		b := Copy(a)
		if !Same(a, b) {
			t.Error(i, b)
		}
		for k := range b.Cells {
			b.Cells[k]++
			if Same(a, b) {
				t.Error(i, "shared")
			}
			b.Cells[k]--
		}
	}
	if !Same(api.Plan{Cells: []int{}}, api.Plan{}) || !Same(api.Plan{}, Copy(api.Plan{Cells: []int{}})) {
		t.Error("nil and empty")
	}
	wide := make([]int, 1, 9)
	wide[0] = 4
	if c := Copy(api.Plan{Cells: wide}); len(c.Cells) != 1 || cap(c.Cells) == 9 {
		t.Error("room behind the cells is shared")
	}
}
