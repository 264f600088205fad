package circuit

import (
	"slices"
	"testing"

	"thermion/api"
)

// ring is a stage that hangs on its own plate: a fiftieth of it, less 2000. (The part x of its supply is where x + x x is 1: 61803.)
func ring() api.Net {
	n := netOf(0, stage(tap(0, 1, 50)))
	n.Stages[0].Bias = one(-2000)
	return n
}

// row is three stages. The second one hangs on the first one's plate (a twenty-fifth of it, less 4000); the first one has the grid at 0, the third one hangs on the second one's plate in the same way.
func row() api.Net {
	n := netOf(0, stage(), stage(tap(0, 1, 25)), stage(tap(1, 1, 25)))
	n.Stages[1].Bias, n.Stages[2].Bias = one(-4000), one(-4000)
	return n
}

// back is row with its stages in the opposite order.
func back() api.Net {
	n := netOf(0, stage(tap(1, 1, 25)), stage(tap(2, 1, 25)), stage())
	n.Stages[0].Bias, n.Stages[1].Bias = one(-4000), one(-4000)
	return n
}

// isSettled reports whether a net came to some voltages in some sweeps.
func isSettled(x api.Settled, sweeps int, still bool, nodes ...api.Range) bool {
	return slices.Equal(x.Nodes, nodes) && x.Sweeps == sweeps && x.Still == still
}

// P9.2: voltages, and sweeps, that were found by hand.
func TestSettle(t *testing.T) {
	full := of(0, 100000)
	for i, c := range []struct {
		n      api.Net
		inputs []api.Range
		sweeps int
		done   int
		still  bool
		nodes  []api.Range
	}{
		{netN(), []api.Range{one(0)}, 9, 2, true, []api.Range{one(0), one(50000)}}, {netN(), []api.Range{one(0)}, 2, 2, true, []api.Range{one(0), one(50000)}}, {netN(), []api.Range{one(0)}, 1, 1, false, []api.Range{one(0), one(50000)}}, {netN(), []api.Range{one(0)}, 0, 0, false, []api.Range{one(0), full}}, {netN(), []api.Range{of(-2000, 0)}, 1, 1, false, []api.Range{of(-2000, 0), of(50000, 100000)}}, {netN(), []api.Range{of(-2000, 0)}, 30, 2, true, []api.Range{of(-2000, 0), of(50000, 100000)}}, {netN(), []api.Range{one(-1000)}, 30, 2, true, []api.Range{one(-1000), of(66600, 66700)}},
		// A sweep that changes nothing can be the first one.
		{changed(netN(), func(n *api.Net) { n.Stages[0].Supply = none }), []api.Range{one(0)}, 30, 1, true, []api.Range{one(0), none}}, {changed(netN(), func(n *api.Net) { n.Stages[0].Supply = of(0, 100000) }), []api.Range{one(-2000)}, 30, 1, true, []api.Range{one(-2000), full}},
		{changed(netN(), func(n *api.Net) { n.Stages[0].Supply = of(7, 90000) }), []api.Range{one(-2000)}, 0, 0, false, []api.Range{one(-2000), of(0, 90000)}},
		// By what the plate may be the grid may be from -2000 to 0, then from -1000 to 0, then from -1000 to -666 (1334 of 2000: 400 microamperes at 59970), and so on.
		{ring(), nil, 1, 1, false, []api.Range{of(50000, 100000)}}, {ring(), nil, 2, 2, false, []api.Range{of(50000, 66700)}}, {ring(), nil, 3, 3, false, []api.Range{of(59970, 66700)}}, {ring(), nil, 9, 9, false, []api.Range{of(61712, 61900)}}, {ring(), nil, 10, 10, true, []api.Range{of(61712, 61900)}}, {ring(), nil, 30, 10, true, []api.Range{of(61712, 61900)}},
		// A sweep goes on with what it found: forward it finds all at once, back it needs as many sweeps as there are stages.
		{row(), nil, 1, 1, false, []api.Range{one(50000), one(100000), one(50000)}}, {row(), nil, 30, 2, true, []api.Range{one(50000), one(100000), one(50000)}},
		{back(), nil, 1, 1, false, []api.Range{of(50000, 100000), of(50000, 100000), one(50000)}}, {back(), nil, 2, 2, false, []api.Range{of(50000, 100000), one(100000), one(50000)}}, {back(), nil, 3, 3, false, []api.Range{one(50000), one(100000), one(50000)}}, {back(), nil, 30, 4, true, []api.Range{one(50000), one(100000), one(50000)}},
		{twins(), nil, 30, 2, true, []api.Range{of(33300, 100000), of(33300, 100000)}}, {netX(), []api.Range{of(-2000, 0), one(0)}, 30, 2, true, []api.Range{of(-2000, 0), one(0), of(45000, 100000), of(47600, 60000), of(55500, 94200)}},
	} {
		if x, e := Settle(c.n, c.inputs, c.sweeps); !isSettled(x, c.done, c.still, c.nodes...) || e != api.OK {
			t.Error(i, x, e)
		}
	}
}

// asked is a call of Settle, or of Swing.
type asked struct {
	n            api.Net
	a, b         []api.Range
	node, sweeps int
}

// askX is a right call with the net X.
func askX() asked { return asked{netX(), make([]api.Range, 2), make([]api.Range, 2), 4, 30} }

// P9.2: the errors of Settle and of Swing, and the first one of two.
func TestSettleErrors(t *testing.T) {
	faults := []fault[asked]{
		{func(c *asked) { c.n.Stages = nil }, api.ErrShort}, {func(c *asked) { c.a = append(c.a, c.a...) }, api.ErrForm}, {func(c *asked) { c.a[0].Hi = 1000001 }, api.ErrRange}, {func(c *asked) { c.a[0].Lo = 1 }, api.ErrOrder}, {func(c *asked) { c.a[1].Lo = -1000001 }, api.ErrRange}, {func(c *asked) { c.sweeps = 31 }, api.ErrRange},
	}
	inOrder(t, askX, faults, func(c asked) api.Errno {
		x, e := Settle(c.n, c.a, c.sweeps)
		if e != api.OK && (x.Nodes != nil || x.Sweeps != 0 || x.Still) {
			t.Error(x, e)
		}
		return e
	})
	faults = append(faults, []fault[asked]{
		{func(c *asked) { c.b = c.b[:len(c.b)-1] }, api.ErrForm}, {func(c *asked) { c.b[0].Hi = 1000001 }, api.ErrRange}, {func(c *asked) { c.b[0].Lo = 1 }, api.ErrOrder}, {func(c *asked) { c.node = 5 }, api.ErrRange},
	}...)
	inOrder(t, askX, faults, func(c asked) api.Errno {
		r, e := Swing(c.n, c.a, c.b, c.node, c.sweeps)
		if e != api.OK && r != none {
			t.Error(r, e)
		}
		return e
	})
}

// P9.2: what is just right, and what is just wrong, for Settle and Swing.
func TestSettleEdges(t *testing.T) {
	for i, c := range []struct {
		change func(c *asked)
		e      api.Errno
	}{
		{func(c *asked) { c.sweeps = 0 }, api.OK}, {func(c *asked) { c.sweeps = -1 }, api.ErrRange}, {func(c *asked) { c.sweeps = 31 }, api.ErrRange}, {func(c *asked) { c.a = nil }, api.ErrForm}, {func(c *asked) { c.a = make([]api.Range, 1) }, api.ErrForm}, {func(c *asked) { c.a = make([]api.Range, 3) }, api.ErrForm},
		{func(c *asked) { c.a[1] = of(-1000000, 1000000) }, api.OK}, {func(c *asked) { c.a[1] = of(-1000001, 0) }, api.ErrRange}, {func(c *asked) { c.a[1] = of(0, 1000001) }, api.ErrRange}, {func(c *asked) { c.a[1] = of(1000001, 0) }, api.ErrRange}, {func(c *asked) { c.a[1] = of(0, -1000001) }, api.ErrRange}, {func(c *asked) { c.a[1] = of(1, 0) }, api.ErrOrder},
		{func(c *asked) { c.n.Inputs, c.n.Stages, c.a, c.b = 0, []api.Stage{stage()}, nil, []api.Range{} }, api.OK},
	} {
		x := changed(askX(), c.change)
		if _, e := Settle(x.n, x.a, x.sweeps); e != c.e {
			t.Error(i, e)
		}
		if _, e := Swing(x.n, x.a, x.b, 0, x.sweeps); e != c.e {
			t.Error(i, e)
		}
	}
	for node, want := range map[int]api.Errno{-1: api.ErrRange, 0: api.OK, 4: api.OK, 5: api.ErrRange} {
		if _, e := Swing(netX(), make([]api.Range, 2), make([]api.Range, 2), node, 0); e != want {
			t.Error(node, e)
		}
	}
}

// P9.2: swings that were found by hand.
func TestSwing(t *testing.T) {
	in := func(r api.Range) []api.Range { return []api.Range{r} }
	for i, c := range []struct {
		a, b         []api.Range
		node, sweeps int
		want         api.Range
	}{
		{in(one(-2000)), in(one(0)), 1, 9, one(-50000)}, {in(one(0)), in(one(-2000)), 1, 9, one(50000)}, {in(of(-2000, 0)), in(one(0)), 1, 9, of(-50000, 0)}, {in(one(0)), in(of(-2000, 0)), 1, 9, of(0, 50000)}, {in(one(0)), in(one(0)), 1, 9, none}, {in(one(-1000)), in(one(0)), 1, 9, of(-16700, -16600)}, {in(of(-2000, 0)), in(of(-2000, 0)), 1, 9, of(-50000, 50000)},
		{in(of(-5, 9)), in(of(100, 200)), 0, 9, of(91, 205)}, {in(one(-1000000)), in(one(1000000)), 0, 9, one(2000000)}, {in(one(-2000)), in(one(0)), 1, 0, of(-100000, 100000)}, {in(one(-2000)), in(one(0)), 1, 1, one(-50000)},
	} {
		if r, e := Swing(netN(), c.a, c.b, c.node, c.sweeps); r != c.want || e != api.OK {
			t.Error(i, r, e)
		}
	}
}

// P9.2: Settle and Swing follow the chapter: in small nets all voltages of a plate are tried.
func TestSettlePlainly(t *testing.T) {
	slow := 0
	nets(t, 10, 800, smallKind, (*dice).size, func(d *dice, n api.Net, inputs []api.Range) {
		plate := func(i int, grid api.Range) api.Range { return plainPlate(t, n, i, grid) }
		sweeps := []int{d.upTo(5), 30}[d.upTo(2)]
		x, want := rests(t, n, inputs, sweeps), plainSettle(n, inputs, sweeps, plate)
		if !isSettled(x, want.Sweeps, want.Still, want.Nodes...) {
			t.Error(sweeps, x, want)
		}
		other := d.inputs(smallKind, n)
		to := plainSettle(n, other, sweeps, plate)
		for node, r := range want.Nodes {
			s, e := Swing(n, inputs, other, node, sweeps)
			if s != of(to.Nodes[node].Lo-r.Hi, to.Nodes[node].Hi-r.Lo) || e != api.OK {
				t.Error(other, node, s, e)
			}
		}
		if x.Sweeps > 2 {
			slow++
		}
	})
	if slow < 50 {
		t.Error(slow)
	}
}

// P9.2: Settle follows the chapter, with what Plate has for the plates.
func TestSettleByPlates(t *testing.T) {
	for _, k := range kinds() {
		slow := 0
		nets(t, 11, 500, k, (*dice).size, func(d *dice, n api.Net, inputs []api.Range) {
			sweeps := d.upTo(31)
			x := rests(t, n, inputs, sweeps)
			want := plainSettle(n, inputs, sweeps, func(i int, grid api.Range) api.Range {
				r, e := Plate(n, i, grid)
				if e != api.OK {
					t.Fatal(i, grid, e)
				}
				return r
			})
			if !isSettled(x, want.Sweeps, want.Still, want.Nodes...) {
				t.Error(sweeps, x, want)
			}
			if x.Sweeps > 2 {
				slow++
			}
		})
		if slow < 50 {
			t.Error(k, slow)
		}
	}
}
