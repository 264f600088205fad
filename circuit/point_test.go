package circuit

import (
	"testing"

	"thermion/api"
)

// P9.1: grids that were found by hand.
func TestGrid(t *testing.T) {
	nodes := []api.Range{of(-2000, 0), of(0, 90000)}
	for i, c := range []struct {
		change func(s *api.Stage)
		nodes  []api.Range
		want   api.Range
	}{
		{func(s *api.Stage) {}, nodes, of(-2000, 0)}, {func(s *api.Stage) { s.Bias = of(-500, 500) }, nodes, of(-2500, 500)}, {func(s *api.Stage) { s.Taps[0].Den = 3 }, nodes, of(-667, 0)},
		{func(s *api.Stage) { s.Taps = nil }, nodes, of(0, 0)}, {func(s *api.Stage) { s.Taps, s.Bias = nil, of(-7, 9) }, nodes, of(-7, 9)}, {func(s *api.Stage) { s.Taps[0].Num = 0 }, nodes, of(0, 0)},
		{func(s *api.Stage) { s.Taps[0] = tap(1, 1, 7) }, nodes, of(0, 12858)}, {func(s *api.Stage) { s.Taps = append(s.Taps, tap(1, 2, 7)) }, nodes, of(-2000, 25715)},
		// Each tap is rounded by itself, outwards on both sides of 0.
		{func(s *api.Stage) { s.Taps = []api.Tap{tap(0, 1, 3), tap(1, 1, 3)} }, []api.Range{one(1), one(1)}, of(0, 2)},
		{func(s *api.Stage) { s.Taps = []api.Tap{tap(0, 1, 3), tap(1, 1, 3)} }, []api.Range{one(-1), one(-1)}, of(-2, 0)},
		{func(s *api.Stage) { s.Taps[0] = tap(0, 2, 3) }, []api.Range{of(-4, 4), one(0)}, of(-3, 3)}, {func(s *api.Stage) { s.Taps[0] = tap(0, 2, 3) }, []api.Range{of(-3, 3), one(0)}, of(-2, 2)}, {func(s *api.Stage) { s.Taps[0] = tap(0, 2, 3) }, []api.Range{of(-5, -4), one(0)}, of(-4, -2)}, {func(s *api.Stage) { s.Taps[0] = tap(0, 2, 3) }, []api.Range{of(4, 5), one(0)}, of(2, 4)},
		// A grid has no voltage beyond a million on either side, but what is added up may go there and come back.
		{func(s *api.Stage) { s.Taps[0].Num = 1000 }, nodes, of(-1000000, 0)}, {func(s *api.Stage) { s.Taps[0] = tap(1, 1000, 1) }, nodes, of(0, 1000000)}, {func(s *api.Stage) { s.Taps[0].Num = 1000 }, []api.Range{of(-9000, -2000), {}}, of(-1000000, -1000000)}, {func(s *api.Stage) { s.Taps[0].Num = 1000 }, []api.Range{of(2000, 9000), {}}, of(1000000, 1000000)},
		{func(s *api.Stage) { s.Taps = []api.Tap{tap(0, 1000, 1), tap(1, 1000, 1)} }, []api.Range{one(-900000), one(900000)}, of(0, 0)}, {func(s *api.Stage) { s.Taps, s.Bias = []api.Tap{tap(0, 2, 1), tap(1, 3, 1)}, one(1000000) }, []api.Range{one(-1000000), one(400000)}, one(200000)},
		{func(s *api.Stage) { s.Taps, s.Bias = []api.Tap{tap(0, 1000, 1), tap(1, 1000, 1)}, one(1000000) }, []api.Range{one(1000000), one(1000000)}, one(1000000)}, {func(s *api.Stage) { s.Taps[0].Num, s.Bias = 1, of(-998000, 999999) }, []api.Range{of(-2000, 1), {}}, of(-1000000, 1000000)}, {func(s *api.Stage) { s.Bias = of(-998000, 999999) }, []api.Range{of(-2001, 2), {}}, of(-1000000, 1000000)},
	} {
		n := netN()
		c.change(&n.Stages[0])
		if r, e := Grid(n, 0, c.nodes); r != c.want || e != api.OK {
			t.Error(i, r, e)
		}
	}
	// Inputs come first, then plates.
	all := []api.Range{one(1000), one(20), of(40000, 50000), one(70000), of(30, 100000)}
	for i, want := range []api.Range{one(1000), of(530, 2530), of(-2000, -1650)} {
		if r, e := Grid(netX(), i, all); r != want || e != api.OK {
			t.Error(i, r, e)
		}
	}
}

// P9.1: the errors of Grid, and the first one of two.
func TestGridErrors(t *testing.T) {
	type call struct {
		n     api.Net
		stage int
		nodes []api.Range
	}
	right := func() call { return call{netX(), 0, make([]api.Range, 5)} }
	inOrder(t, right, []fault[call]{
		{func(c *call) { c.n.Inputs = 5 }, api.ErrRange}, {func(c *call) { c.stage = 3 }, api.ErrRange}, {func(c *call) { c.nodes = append(c.nodes, c.nodes...) }, api.ErrForm},
		{func(c *call) { c.nodes[0].Hi = 1000001 }, api.ErrRange}, {func(c *call) { c.nodes[0].Lo = 1 }, api.ErrOrder}, {func(c *call) { c.nodes[4].Lo = -1000001 }, api.ErrRange},
	}, func(c call) api.Errno {
		r, e := Grid(c.n, c.stage, c.nodes)
		if e != api.OK && r != none {
			t.Error(r, e)
		}
		return e
	})
	for i, c := range []struct {
		stage int
		nodes []api.Range
		e     api.Errno
	}{
		{-1, nil, api.ErrRange}, {3, nil, api.ErrRange}, {2, nil, api.ErrForm}, {2, make([]api.Range, 4), api.ErrForm}, {2, make([]api.Range, 6), api.ErrForm}, {0, []api.Range{of(1, 0)}, api.ErrForm},
		{2, []api.Range{{}, {}, of(-1000000, 1000000), {}, {}}, api.OK}, {2, []api.Range{{}, {}, of(-1000001, 0), {}, {}}, api.ErrRange}, {2, []api.Range{{}, {}, of(0, 1000001), {}, {}}, api.ErrRange}, {2, []api.Range{{}, {}, of(1000001, 0), {}, {}}, api.ErrRange}, {2, []api.Range{{}, {}, of(0, -1000001), {}, {}}, api.ErrRange},
		{2, []api.Range{{}, {}, of(1, 0), {}, {}}, api.ErrOrder}, {2, []api.Range{of(1, 0), of(0, 1000001), {}, {}, {}}, api.ErrOrder}, {2, []api.Range{of(0, 1000001), of(1, 0), {}, {}, {}}, api.ErrRange},
	} {
		if r, e := Grid(netX(), c.stage, c.nodes); e != c.e || r != none && e != api.OK {
			t.Error(i, r, e)
		}
	}
}

// P9.1: Grid follows the chapter.
func TestGridPlainly(t *testing.T) {
	for _, k := range kinds() {
		bound := 0
		nets(t, 1, 1500, k, (*dice).size, func(d *dice, n api.Net, inputs []api.Range) {
			nodes := inputs
			for range n.Stages {
				nodes = append(nodes, d.any(-k.plate/9, k.plate))
			}
			for i := range n.Stages {
				r, e := Grid(n, i, nodes)
				if r != plainGrid(n, i, nodes) || e != api.OK {
					t.Error(i, nodes, r, e)
				}
				if r.Lo == -1000000 || r.Hi == 1000000 {
					bound++
				}
			}
		})
		if k == greatKind && bound < 500 {
			t.Error(bound)
		}
	}
}

// P9.1: plates that were found by hand.
func TestPlate(t *testing.T) {
	for i, c := range []struct {
		change     func(n *api.Net)
		grid, want api.Range
	}{
		{func(n *api.Net) {}, one(0), one(50000)}, {func(n *api.Net) {}, one(-2000), one(100000)}, {func(n *api.Net) {}, of(-2000, 0), of(50000, 100000)}, {func(n *api.Net) {}, one(1000000), one(50000)}, {func(n *api.Net) {}, one(-1000000), one(100000)}, {func(n *api.Net) {}, of(-1000000, 1000000), of(50000, 100000)},
		// With half of the current 66666.67 would be left: 666 x 100 are 33400 or 33300 with a current of 334 or 333.
		{func(n *api.Net) {}, one(-1000), of(66600, 66700)},
		{func(n *api.Net) { n.Stages[0].Supply = of(80000, 100000) }, one(0), of(40000, 50000)}, {func(n *api.Net) { n.Stages[0].Supply = none }, one(0), none}, {func(n *api.Net) { n.Stages[0].Supply = of(0, 100000) }, one(0), of(0, 50000)}, {func(n *api.Net) { n.Stages[0].Supply = one(1) }, one(0), of(0, 1)},
		{func(n *api.Net) { n.Stages[0].Load = of(100000, 300000) }, one(0), of(25000, 50000)}, {func(n *api.Net) { n.Stages[0].Load = one(1) }, one(0), of(99999, 100000)}, {func(n *api.Net) { n.Stages[0].Load = one(1000000) }, one(0), of(9000, 9100)},
		// A family with at least 0, at most 3000 at 0 and 100000.
		{func(n *api.Net) { n.Tubes[0].Low[1][1], n.Tubes[0].High[1][1] = 0, 3000 }, one(0), of(25000, 100000)},
		// The bias does not count, only the grid that is given; nor do taps.
		{func(n *api.Net) { n.Stages[0].Bias, n.Stages[0].Taps = one(-2000), nil }, one(0), one(50000)},
		// A current of 5000 at every plate voltage: more than the supply gives; at the grid's Lo one of 500, which it gives.
		{func(n *api.Net) { n.Tubes[0].Low[1], n.Tubes[0].High[1] = []int{5000, 5000}, []int{5000, 5000} }, one(0), none}, {func(n *api.Net) { n.Tubes[0].Low[1], n.Tubes[0].High[1] = []int{5000, 5000}, []int{5000, 5000} }, of(-1800, 0), of(0, 50000)},
		// A current of 1000, which just takes all of the supply, or one of 1001, or 999.
		{func(n *api.Net) { n.Tubes[0].Low[1], n.Tubes[0].High[1] = []int{1000, 1000}, []int{1000, 1000} }, one(0), none}, {func(n *api.Net) { n.Tubes[0].Low[1], n.Tubes[0].High[1] = []int{1001, 1001}, []int{1001, 1001} }, one(0), none}, {func(n *api.Net) { n.Tubes[0].Low[1], n.Tubes[0].High[1] = []int{999, 999}, []int{999, 999} }, one(0), one(100)},
		// The lines of the plate end at 20000: from there on the current is 200.
		{func(n *api.Net) { n.Tubes[0].Plate[1], n.Tubes[0].Low[1][1], n.Tubes[0].High[1][1] = 20000, 200, 200 }, one(0), one(80000)}, {func(n *api.Net) { n.Tubes[0].Plate[1], n.Tubes[0].Low[1][1], n.Tubes[0].High[1][1] = 20000, 200, 200 }, one(-1000), one(90000)},
		// One line in each direction.
		{func(n *api.Net) {
			n.Tubes[0] = api.Family{Grid: []int{5}, Plate: []int{7}, Low: [][]int{{300}}, High: [][]int{{400}}}
		}, of(-9, 9), of(60000, 70000)},
		{func(n *api.Net) { n.Stages[0].Supply, n.Stages[0].Load = one(1000000), one(1000000) }, one(-2000), one(1000000)}, {func(n *api.Net) {
			n.Tubes[0] = api.Family{Grid: []int{0}, Plate: []int{0, 1000000}, Low: [][]int{{0, 1000000}}, High: [][]int{{0, 1000000}}}
			n.Stages[0].Supply, n.Stages[0].Load = one(1000000), one(1000000)
		}, one(0), of(999, 1000)},
	} {
		n := netN()
		c.change(&n)
		if r, e := Plate(n, 0, c.grid); r != c.want || e != api.OK {
			t.Error(i, r, e)
		}
	}
	// Of another stage, and of its family: 476 microamperes at 47600 and 110000 ohms, 400 at 60000 and 100000.
	for i, want := range []api.Range{of(45000, 50000), of(47600, 60000), one(50000)} {
		if r, e := Plate(netX(), i, one(0)); r != want || e != api.OK {
			t.Error(i, r, e)
		}
	}
}

// P9.1: the errors of Plate, and the first one of two.
func TestPlateErrors(t *testing.T) {
	for i, c := range []struct {
		stage int
		grid  api.Range
		e     api.Errno
	}{
		{-1, none, api.ErrRange}, {3, none, api.ErrRange}, {3, of(1, 0), api.ErrRange}, {-1, of(1, 0), api.ErrRange}, {2, of(1, 0), api.ErrOrder}, {2, of(-1000000, 1000000), api.OK},
		{2, of(-1000001, 0), api.ErrRange}, {2, of(0, 1000001), api.ErrRange}, {2, of(1000001, 0), api.ErrRange}, {2, of(0, -1000001), api.ErrRange}, {2, of(1000000, -1000000), api.ErrOrder},
	} {
		if r, e := Plate(netX(), c.stage, c.grid); e != c.e || r != none && e != api.OK {
			t.Error(i, r, e)
		}
	}
}

// P9.1: Plate is what is found when all voltages are tried.
func TestPlatePlainly(t *testing.T) {
	between := 0
	nets(t, 2, 3000, smallKind, (*dice).size, func(d *dice, n api.Net, inputs []api.Range) {
		for i, s := range n.Stages {
			grid := d.any(-40, 20)
			r, e := Plate(n, i, grid)
			if r != plainPlate(t, n, i, grid) || e != api.OK {
				t.Error(i, grid, r, e)
			}
			if 0 < r.Lo && r.Lo < r.Hi && r.Hi < s.Supply.Lo {
				between++
			}
		}
	})
	if between < 2000 {
		t.Error(between)
	}
}

// P9.1, and T5's second half: at its ends a plate and its load have together what the supply gives, and at the next voltages no more, or not enough.
func TestPlateEnds(t *testing.T) {
	for _, k := range kinds() {
		between := 0
		nets(t, 3, 1500, k, (*dice).size, func(d *dice, n api.Net, inputs []api.Range) {
			for i, s := range n.Stages {
				grid := []api.Range{d.near(-k.grid, k.grid/4, 0), d.any(-k.grid, k.grid)}[d.upTo(2)]
				r, e := Plate(n, i, grid)
				if e != api.OK || r.Lo < 0 || r.Lo > r.Hi || r.Lo > s.Supply.Lo || r.Hi > s.Supply.Hi {
					t.Error(i, grid, r, e)
				}
				if r.Lo > 0 && !isLow(t, n, i, grid.Hi, r.Lo) || r.Lo < s.Supply.Lo && isLow(t, n, i, grid.Hi, r.Lo+1) {
					t.Error(i, grid, r, "Lo")
				}
				if !isHigh(t, n, i, grid.Lo, r.Hi) || r.Hi > 0 && isHigh(t, n, i, grid.Lo, r.Hi-1) {
					t.Error(i, grid, r, "Hi")
				}
				if 0 < r.Lo && r.Hi < s.Supply.Lo {
					between++
				}
			}
		})
		if between < 500 {
			t.Error(k, between)
		}
	}
}
