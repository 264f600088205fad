package circuit

import (
	"slices"
	"testing"

	"thermion/api"
	"thermion/curve"
)

// faults are what may be wrong with the net X, in the order in which it is found.
func faults() []fault[api.Net] {
	first := func(change func(s *api.Stage)) func(n *api.Net) { return func(n *api.Net) { change(&n.Stages[0]) } }
	return []fault[api.Net]{
		{func(n *api.Net) { n.Tubes[0].Grid = nil }, api.ErrShort}, {func(n *api.Net) { n.Tubes[0].Low[0][0] = -1 }, api.ErrRange}, {func(n *api.Net) { n.Tubes[1].High = nil }, api.ErrForm},
		{func(n *api.Net) { n.Inputs = 5 }, api.ErrRange},
		{first(func(s *api.Stage) { s.Tube = 2 }), api.ErrRange},
		{first(func(s *api.Stage) { s.Supply.Hi = 1000001 }), api.ErrRange}, {first(func(s *api.Stage) { s.Supply.Lo = 100001 }), api.ErrOrder},
		{first(func(s *api.Stage) { s.Load.Lo = 0 }), api.ErrRange}, {first(func(s *api.Stage) { s.Load.Lo = 100001 }), api.ErrOrder},
		{first(func(s *api.Stage) { s.Bias.Lo = -1000001 }), api.ErrRange}, {first(func(s *api.Stage) { s.Bias.Lo = 1 }), api.ErrOrder},
		{first(func(s *api.Stage) { s.Taps = append(s.Taps, make([]api.Tap, 4)...) }), api.ErrFull},
		{first(func(s *api.Stage) { s.Taps[0].Den = 0 }), api.ErrRange}, {first(func(s *api.Stage) { s.Taps = append(s.Taps[:1:1], tap(0, 1, 1)) }), api.ErrOrder},
		{func(n *api.Net) { n.Stages[1].Tube = -1 }, api.ErrRange}, {func(n *api.Net) { n.Stages[1].Taps[1].Node = 0 }, api.ErrOrder}, {func(n *api.Net) { n.Stages[1].Taps[2].Node = 5 }, api.ErrRange},
		{func(n *api.Net) { n.Stages[2].Supply = of(5, 4) }, api.ErrOrder},
	}
}

// P9.1, R1: Check finds each error of a net, and the first one of two.
func TestCheckInOrder(t *testing.T) {
	inOrder(t, netX, faults(), Check)
	if e := Check(netN()); e != api.OK {
		t.Error(e)
	}
}

// P9.1: what a net may have, and what is just too much or too little.
func TestCheckEdges(t *testing.T) {
	for i, c := range []struct {
		change func(n *api.Net)
		want   api.Errno
	}{
		{func(n *api.Net) { *n = api.Net{} }, api.ErrShort}, {func(n *api.Net) { n.Tubes = []api.Family{} }, api.ErrShort}, {func(n *api.Net) { n.Tubes = slices.Repeat(n.Tubes, 4) }, api.OK}, {func(n *api.Net) { n.Tubes = slices.Repeat(n.Tubes, 5) }, api.ErrFull}, {func(n *api.Net) { n.Tubes = make([]api.Family, 5) }, api.ErrFull}, {func(n *api.Net) { n.Tubes = make([]api.Family, 4) }, api.ErrShort},
		{func(n *api.Net) { n.Tubes[0].Grid = []int{0, 0} }, api.ErrOrder}, {func(n *api.Net) { n.Tubes[0].Low[0][0] = 1 }, api.ErrClash}, {func(n *api.Net) { n.Tubes = append(n.Tubes, api.Family{}) }, api.ErrShort}, {func(n *api.Net) { n.Tubes[0].Grid = make([]int, 41) }, api.ErrFull},
		{func(n *api.Net) { n.Inputs = -1 }, api.ErrRange}, {func(n *api.Net) { n.Inputs = 0 }, api.OK}, {func(n *api.Net) { n.Inputs = 4 }, api.OK}, {func(n *api.Net) { n.Inputs = 5 }, api.ErrRange}, {func(n *api.Net) { n.Inputs, n.Stages = 5, nil }, api.ErrRange}, {func(n *api.Net) { n.Tubes, n.Inputs = nil, 5 }, api.ErrShort},
		{func(n *api.Net) { n.Stages = nil }, api.ErrShort}, {func(n *api.Net) { n.Stages = []api.Stage{} }, api.ErrShort}, {func(n *api.Net) { n.Stages = slices.Repeat(n.Stages, 6) }, api.OK}, {func(n *api.Net) { n.Stages = slices.Repeat(n.Stages, 7) }, api.ErrFull}, {func(n *api.Net) { n.Stages = make([]api.Stage, 7) }, api.ErrFull}, {func(n *api.Net) { n.Stages = make([]api.Stage, 6) }, api.ErrRange},
		{func(n *api.Net) { n.Tubes, n.Stages[0].Tube = slices.Repeat(n.Tubes, 4), 3 }, api.OK}, {func(n *api.Net) { n.Stages[0].Tube = 1 }, api.ErrRange}, {func(n *api.Net) { n.Stages[0].Tube = -1 }, api.ErrRange},
	} {
		n := netN()
		c.change(&n)
		if e := Check(n); e != c.want {
			t.Error(i, e)
		}
	}
}

// P9.1: what a stage may have, and what is just too much or too little.
func TestCheckStageEdges(t *testing.T) {
	for i, c := range []struct {
		change func(s *api.Stage)
		want   api.Errno
	}{
		{func(s *api.Stage) { s.Supply = of(0, 1000000) }, api.OK}, {func(s *api.Stage) { s.Supply = none }, api.OK}, {func(s *api.Stage) { s.Supply = of(-1, 0) }, api.ErrRange}, {func(s *api.Stage) { s.Supply = of(0, 1000001) }, api.ErrRange}, {func(s *api.Stage) { s.Supply = of(5, 4) }, api.ErrOrder}, {func(s *api.Stage) { s.Supply = of(5, -1) }, api.ErrRange}, {func(s *api.Stage) { s.Supply = of(1000001, 5) }, api.ErrRange},
		{func(s *api.Stage) { s.Load = of(1, 1000000) }, api.OK}, {func(s *api.Stage) { s.Load = of(0, 1) }, api.ErrRange}, {func(s *api.Stage) { s.Load = of(1, 1000001) }, api.ErrRange}, {func(s *api.Stage) { s.Load = of(2, 1) }, api.ErrOrder}, {func(s *api.Stage) { s.Load = of(2, 0) }, api.ErrRange}, {func(s *api.Stage) { s.Load = of(1000001, 1) }, api.ErrRange},
		{func(s *api.Stage) { s.Bias = of(-1000000, 1000000) }, api.OK}, {func(s *api.Stage) { s.Bias = of(-1000001, 0) }, api.ErrRange}, {func(s *api.Stage) { s.Bias = of(0, 1000001) }, api.ErrRange}, {func(s *api.Stage) { s.Bias = of(1, 0) }, api.ErrOrder}, {func(s *api.Stage) { s.Bias = of(0, -1000001) }, api.ErrRange}, {func(s *api.Stage) { s.Bias = of(1000001, 0) }, api.ErrRange},
		{func(s *api.Stage) { s.Taps = nil }, api.OK}, {func(s *api.Stage) { s.Taps = []api.Tap{} }, api.OK}, {func(s *api.Stage) { s.Taps = []api.Tap{tap(0, 1, 1), tap(1, 1, 1), tap(3, 1, 1), tap(4, 1, 1)} }, api.OK}, {func(s *api.Stage) {
			s.Taps = []api.Tap{tap(0, 1, 1), tap(1, 1, 1), tap(2, 1, 1), tap(3, 1, 1), tap(4, 1, 1)}
		}, api.ErrFull}, {func(s *api.Stage) { s.Taps = make([]api.Tap, 5) }, api.ErrFull},
		{func(s *api.Stage) { s.Taps[0].Node = -1 }, api.ErrRange}, {func(s *api.Stage) { s.Taps[0].Node = 4 }, api.OK}, {func(s *api.Stage) { s.Taps[0].Node = 5 }, api.ErrRange}, {func(s *api.Stage) { s.Taps[0].Num = -1 }, api.ErrRange}, {func(s *api.Stage) { s.Taps[0].Num = 0 }, api.OK}, {func(s *api.Stage) { s.Taps[0].Num = 1000 }, api.OK}, {func(s *api.Stage) { s.Taps[0].Num = 1001 }, api.ErrRange},
		{func(s *api.Stage) { s.Taps[0].Den = 0 }, api.ErrRange}, {func(s *api.Stage) { s.Taps[0].Den = -1 }, api.ErrRange}, {func(s *api.Stage) { s.Taps[0].Den = 1000 }, api.OK}, {func(s *api.Stage) { s.Taps[0].Den = 1001 }, api.ErrRange},
		{func(s *api.Stage) { s.Taps = []api.Tap{tap(1, 1, 1), tap(1, 1, 1)} }, api.ErrOrder}, {func(s *api.Stage) { s.Taps = []api.Tap{tap(1, 1, 1), tap(0, 1, 1)} }, api.ErrOrder}, {func(s *api.Stage) { s.Taps = []api.Tap{tap(1, 1, 1), tap(0, 1, 0)} }, api.ErrRange}, {func(s *api.Stage) { s.Taps = []api.Tap{tap(1, 1, 1), tap(0, 1, 1), tap(9, 9, 0)} }, api.ErrOrder}, {func(s *api.Stage) { s.Taps = []api.Tap{tap(1, 1, 1), tap(1, 1001, 1)} }, api.ErrRange},
	} {
		n := netX()
		c.change(&n.Stages[0])
		if e := Check(n); e != c.want {
			t.Error(i, e)
		}
	}
}

// P9.1 to P9.6, R1, R3: all functions return Check's error before others, and nothing else with it.
func TestCheckFirst(t *testing.T) {
	for i, f := range faults() {
		n := changed(netX(), f.change)
		wrong := []api.Range{of(5, 4)}
		r1, e1 := Grid(n, 9, wrong)
		r2, e2 := Plate(n, 9, wrong[0])
		x, e3 := Settle(n, wrong, 99)
		r4, e4 := Swing(n, wrong, wrong, 99, 99)
		k, e5 := Keeps(n, wrong, wrong)
		p, e6 := Memory(n, wrong, wrong, wrong)
		m, l, e7 := Corner(n, wrong, -1)
		v8, n8, c8, e8 := Judge(n, make([]api.Case, 17), 99)
		v9, n9, c9, e9 := Gate(n, wrong[0], wrong[0], 99, nil, 99)
		s, e10 := Text(n)
		for j, e := range []api.Errno{e1, e2, e3, e4, e5, e6, e7, e8, e9, e10} {
			if e != f.want {
				t.Error(i, j, e)
			}
		}
		if r1 != none || r2 != none || x.Nodes != nil || x.Sweeps != 0 || x.Still || r4 != none || k || p != 0 || !Same(m, api.Net{}) || l != nil || v8 != 0 || n8 != 0 || c8 != 0 || v9 != 0 || n9 != 0 || c9 != 0 || s != "" {
			t.Error(i, r1, r2, x, r4, k, p, m, l, v8, n8, c8, v9, n9, c9, s)
		}
	}
}

// differences are changes of the net X after which it is another net, whether valid or not.
func differences() []func(n *api.Net) {
	return []func(n *api.Net){
		func(n *api.Net) { n.Tubes = n.Tubes[:1] }, func(n *api.Net) { n.Tubes = append(n.Tubes, api.Family{}) }, func(n *api.Net) { n.Tubes[0].Grid[0]-- }, func(n *api.Net) { n.Tubes[0].Plate[1]++ }, func(n *api.Net) { n.Tubes[1].Low[0][1]-- }, func(n *api.Net) { n.Tubes[1].High[0][1]++ }, func(n *api.Net) { n.Tubes[0], n.Tubes[1] = n.Tubes[1], n.Tubes[0] },
		func(n *api.Net) { n.Inputs = 1 }, func(n *api.Net) { n.Inputs = -7 }, func(n *api.Net) { n.Stages = n.Stages[:2] }, func(n *api.Net) { n.Stages = append(n.Stages, api.Stage{}) }, func(n *api.Net) { n.Stages[0], n.Stages[2] = n.Stages[2], n.Stages[0] },
		func(n *api.Net) { n.Stages[2].Tube = 1 }, func(n *api.Net) { n.Stages[0].Supply.Lo++ }, func(n *api.Net) { n.Stages[1].Supply.Hi++ }, func(n *api.Net) { n.Stages[2].Load.Lo-- }, func(n *api.Net) { n.Stages[0].Load.Hi++ }, func(n *api.Net) { n.Stages[1].Bias.Lo-- }, func(n *api.Net) { n.Stages[2].Bias.Hi++ },
		func(n *api.Net) { n.Stages[0].Taps = nil }, func(n *api.Net) { n.Stages[1].Taps = n.Stages[1].Taps[:2] }, func(n *api.Net) { n.Stages[1].Taps = append(n.Stages[1].Taps, api.Tap{}) }, func(n *api.Net) { n.Stages[1].Taps[1].Node = 2 }, func(n *api.Net) { n.Stages[1].Taps[1].Num++ }, func(n *api.Net) { n.Stages[2].Taps[0].Den++ },
	}
}

// P9.6: Same looks at everything of a net.
func TestSame(t *testing.T) {
	for i, change := range differences() {
		n := changed(netX(), change)
		if Same(n, netX()) || Same(netX(), n) || !Same(n, n) || !Same(n, changed(netX(), change)) {
			t.Error(i)
		}
		for k, other := range differences() {
			if Same(n, changed(netX(), other)) != (i == k) {
				t.Error(i, k)
			}
		}
	}
	// Nil lists are equal to empty ones.
	empty := api.Net{Tubes: []api.Family{}, Stages: []api.Stage{}}
	a := api.Net{Tubes: []api.Family{{}}, Stages: []api.Stage{{}}}
	b := api.Net{Tubes: []api.Family{{Grid: []int{}, Plate: []int{}, Low: [][]int{}, High: [][]int{}}}, Stages: []api.Stage{{Taps: []api.Tap{}}}}
	if !Same(api.Net{}, empty) || !Same(empty, api.Net{}) || !Same(a, b) || !Same(b, a) || Same(a, empty) || Same(api.Net{}, b) {
		t.Error("empty lists")
	}
}

// P9.6, R4: a copy is equal, and stays as it is whatever is changed in the net, or in it.
func TestCopy(t *testing.T) {
	for i, change := range differences() {
		n := netX()
		c := Copy(n)
		if !Same(c, n) {
			t.Fatal(i, c)
		}
		change(&n)
		if !Same(c, netX()) {
			t.Error(i, "the copy changed")
		}
		n = netX()
		change(&c)
		if !Same(n, netX()) {
			t.Error(i, "the net changed")
		}
		wrong := changed(netX(), change) // a copy of what may not be valid
		if !Same(Copy(wrong), wrong) {
			t.Error(i, wrong)
		}
	}
	for _, n := range []api.Net{{}, {Inputs: -9}, {Tubes: make([]api.Family, 50), Stages: make([]api.Stage, 50)}, {Tubes: []api.Family{{Low: [][]int{nil, {5}}}}}, {Stages: []api.Stage{{Tube: -5, Supply: of(7, -7), Taps: make([]api.Tap, 50)}}}} {
		if !Same(Copy(n), n) {
			t.Error(n)
		}
	}
	// Further elements do not come into the memory of the net.
	n := netX()
	n.Stages = n.Stages[:2]
	n.Stages[0].Taps = make([]api.Tap, 1, 9)
	c := Copy(n)
	c.Stages = append(c.Stages, api.Stage{Tube: 7})
	c.Stages[0].Taps = append(c.Stages[0].Taps, tap(9, 9, 9))
	if n.Stages[:3][2].Tube != 0 || n.Stages[0].Taps[:2][1] != (api.Tap{}) || !curve.Same(n.Tubes[0], familyF()) {
		t.Error(n)
	}
}
